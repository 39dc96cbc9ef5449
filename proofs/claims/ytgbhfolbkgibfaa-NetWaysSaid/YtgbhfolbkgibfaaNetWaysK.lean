/- Layer 19's law of the ways, walked. -/
import Derived.Test.YtgbhfolbkgibfaaKBB
import Derived.Test.YtgbhfolbkgibfaaKBC
import Derived.Test.YtgbhfolbkgibfaaKBD
import Derived.StillTailTactics
namespace Go.Proofs.Ytgbhfolbkgibfaa
set_option maxRecDepth 20000
open Go.RowKit BinMath NetMath
open MsgMath (Mg)

theorem vote_formed : ∀ f : Fin 8, ∀ o : Fin 8, 1 ≤ f.val → 1 ≤ o.val → MsgMath.formedM (voteM f.val o.val 1) = true := by decide

theorem send_vote (n : Nt) (ws : List (Nat × Nat)) (a b : Nat) (h : n.W = ws) (ha : 1 ≤ a) (ha7 : a ≤ 7) (hb : 1 ≤ b) (hb7 : b ≤ 7) (hl : n.L.length < 256) :
    (n.send (voteM a b 1)).1 = (if (a, b) ∈ ws then 6 else 0) ∧ (n.send (voteM a b 1)).2.W = ws ∧ (n.send (voteM a b 1)).2.L.length ≤ n.L.length + 1 := by
  have hf := vote_formed ⟨a, by omega⟩ ⟨b, by omega⟩ ha hb
  have hbl : n.blocked a b = decide ((a, b) ∈ ws) := by unfold Nt.blocked; rw [h]
  unfold Nt.send
  rw [if_neg (by rw [hf]; simp), show n.blocked (voteM a b 1).f (voteM a b 1).o = n.blocked a b from rfl, hbl]
  by_cases hm : (a, b) ∈ ws
  · rw [if_pos (by simp [hm]), if_pos hm]
    exact ⟨rfl, h, Nat.le_succ _⟩
  · rw [if_neg (by simp [hm]), if_neg hm, if_neg (by omega)]
    exact ⟨rfl, h, by simp⟩

set_option maxHeartbeats 4000000 in
theorem netWays_walk (hp : NetProg) (v : Value) (L : List NOp) (w : World) (hv : InRow 17 NOp.cells w v L) (ho : ∀ o ∈ L, o.Ok) :
    Calls Try.prog 5 #[v] w fun e w' => e = .returned (.bool true) ∧ Below w.heap.size w w' := by
  obtain ⟨sa, c, rfl, hl, hel⟩ := hv
  obtain ⟨n, hn⟩ : ∃ n, n = L.length := ⟨_, rfl⟩
  rw [← hn] at hl ⊢
  have HA := Lib.hid (awake19_any hp w)
  have HE := Lib.hid hel
  have HN := Lib.hid hn
  have HO := Lib.hid ho
  clear hel hn ho
  go_enter Try.func5, Try.ntmps5
  go_wp2_with fail
  refine HA.out.mono ?_
  rintro e w1 ⟨rfl, hb⟩
  have HB1 := Lib.hid hb
  clear hb HA
  go_wp2_with fail
  refine (hp.new_ w1).mono ?_
  rintro e w2 ⟨P, U, rfl, hi, hb, hU⟩
  obtain ⟨w3, hw3⟩ : ∃ w3, w3 = w2.alloc (.cells #[.slice none 0 0, .slice none 0 0] 30) := ⟨_, rfl⟩
  have hb3 : Below w2.heap.size w2 w3 := by rw [hw3]; exact (Below.refl _ _).alloc (Nat.le_refl _) _
  have hbo : Both hp w1.heap.size w3 P w2.heap.size Nt.none [] (.slice none 0 0) (.slice none 0 0) U :=
    ⟨hp.keep hi (OnlyS.of_below (S := fun k => w2.heap.size ≤ k) hb3 fun k hk _ => hk) (fun k hk h2 => absurd h2 (by omega)), hU, by rw [hw3]; exact Blk.new w2 _ _, hb.size,
      fun e => absurd (hp.lt hi _ e) (by omega), World.ownsRow_nil _ _ _ _, fun k e => (by cases e), (by intro e; cases e), Nat.le_trans hb.size hb3.size⟩
  have HBo := Lib.hid hbo
  have HB3 := Lib.hid ((HB1.out.trans (hb.mono HB1.out.size)).trans (hb3.mono (Nat.le_trans HB1.out.size hb.size)))
  have HW3 := Lib.hid hw3
  clear hi hb hU hb3 hbo hw3
  go_wp2_with fail
  rw [← HW3.out]
  go_loopw [5] (fun s5 wr => ∃ i : Nat, i ≤ n ∧ i ≤ 30 ∧ s5 = .int .i64 (i : Int) ∧ (∃ (nn : Nt) (vW : Value) (U : Nat → Prop), Both hp w1.heap.size wr P w2.heap.size nn nn.W (.slice none 0 0) vW U ∧ nn.L = [] ∧ nn.W.length ≤ i) ∧ Below w.heap.size w wr) (fun s5 _ => n - (intOf s5).toNat)
  case atStart => exact ⟨0, by omega, by omega, rfl, ⟨Nt.none, _, U, HBo.out, rfl, Nat.le_refl _⟩, HB3.out⟩
  case round =>
    obtain ⟨i, hi, hi30, rfl, ⟨nn, vW, U, hbo, hnl, hnw⟩, hb⟩ := hrel
    have HR := Lib.hid hbo
    have HNL := Lib.hid hnl
    have HB := Lib.hid hb
    have i0 : (0 : Int) ≤ (i : Int) := Int.natCast_nonneg _
    clear hbo hb hnl
    by_cases hlt : i < n ∧ i < 30
    · obtain ⟨h1, h2⟩ := hlt
      obtain ⟨o, hx⟩ : ∃ o, L[i]? = some o := ⟨L[i]'(by have := HN.out; omega), List.getElem?_eq_getElem _⟩
      obtain ⟨ad, rfl, hc⟩ := HE.out i o hx
      have hok := HO.out o (List.mem_of_getElem? hx)
      have hcw : ∀ W, Below w.heap.size w W → W.cell? ⟨(ad.add (i * 17)).block, (ad.add (i * 17)).off + 2, none⟩ = some (.int .u64 (o.a : Int)) ∧ W.cell? ⟨(ad.add (i * 17)).block, (ad.add (i * 17)).off + 3, none⟩ = some (.int .u64 (o.b : Int)) ∧ W.cell? ⟨(ad.add (i * 17)).block, (ad.add (i * 17)).off + 4, none⟩ = some (.bool o.yes) := fun W hW =>
        have go : ∀ {j : Nat} {u : Value}, o.cells[j]? = some u → W.cell? ((ad.add (i * 17)).add j) = some u := fun {j u} e => (hW.cell (World.block_lt_of_cell? w _ (hc j u e))).trans (hc j u e)
        ⟨go (j := 2) rfl, go (j := 3) rfl, go (j := 4) rfl⟩
      have HC := Lib.hid hcw
      obtain ⟨ca, cb, cy⟩ := hcw _ HB.out
      have HOk := Lib.hid hok
      have i1 : (i : Int) < (n : Int) := by omega
      have i2 : (i : Int) < 30 := by omega
      clear hx hc hok hcw
      go_wp2_with fail
      go_still_tail 16, (by kernel_rfl)
      change wpList _ _ _ _ _ wr.drew
      have hd : Below wr.heap.size wr wr.drew := ⟨rfl, rfl, rfl, Nat.le_refl _, fun _ _ => rfl⟩
      have HD := Lib.hid hd
      clear hd ca cb cy
      revert HD
      generalize wr.drew = w4
      intro HD
      go_wp2_with fail
      refine (hp.block o.a o.b o.yes (HR.out.below HD.out).is_ HOk.out.a1 HOk.out.b1 (by omega)).mono ?_
      rintro e w5 ⟨rfl, ho5, U5, hi5, hu5⟩
      have HR5 := Lib.hid ((HR.out.below HD.out).prog ho5 hi5 hu5)
      have hz := HB1.out.size
      have hs4 := Nat.le_trans HB.out.size HD.out.size
      have HB5 := Lib.hid ((HB.out.trans (HD.out.mono HB.out.size)).trans (OnlyS.below ho5 (fun k hk e => by have := HR.out.uz k e; omega) hs4))
      clear ho5 hi5 hu5 HD
      obtain ⟨ca, cb, cy⟩ := HC.out _ HB5.out
      go_wp2_with fail
      go_still_tail 16, (by kernel_rfl)
      change wpList _ _ _ _ _ w5.drew
      have hd : Below w5.heap.size w5 w5.drew := ⟨rfl, rfl, rfl, Nat.le_refl _, fun _ _ => rfl⟩
      have HD := Lib.hid hd
      clear hd ca cb cy
      revert HD
      generalize w5.drew = w6
      intro HD
      have HR6 := Lib.hid (HR5.out.below HD.out)
      go_wp2_with fail
      refine (refBlock_any _ _ _ nn.W o.a o.b o.yes w6 HR6.out.blk HR6.out.row.ways (by omega)).mono ?_
      rintro e w7 ⟨rfl, v7, hk7, hr7, ho7⟩
      have HR7 := Lib.hid (HR6.out.refr hk7 hr7 ho7)
      have hs6 := Nat.le_trans HB5.out.size HD.out.size
      have HB7 := Lib.hid ((HB5.out.trans (HD.out.mono HB5.out.size)).trans (OnlyS.below ho7 (fun k hk e => by have e : k = w2.heap.size := e; have := HR.out.rz; omega) hs6))
      clear hk7 hr7 ho7
      go_wp2_with fail
      go_roundw
      case rel => exact ⟨i + 1, by omega, by omega, by go_num, ⟨nn.block o.a o.b o.yes, v7, U5, HR7.out, HNL.out, Nat.le_trans (blockW_len _ _ _ _) (by omega)⟩, HB7.out⟩
      case measure => simp [intOf]; omega
    · have h30 : (i < n ∧ ¬ i < 30) ∨ ¬ i < n := by omega
      rcases h30 with ⟨h1, h2⟩ | h1
      · have i1 : (i : Int) < (n : Int) := by omega
        have i2 : ¬ (i : Int) < 30 := by omega
        clear hlt
        have hz := HB1.out.size
        go_wp2_with fail
        go_loopw [6] (fun s6 wx => ∃ a : Nat, 1 ≤ a ∧ a ≤ 8 ∧ s6 = .int .u64 (a : Int) ∧ (∃ (n2 : Nt) (U2 : Nat → Prop), Both hp w1.heap.size wx P w2.heap.size n2 nn.W (.slice none 0 0) vW U2 ∧ n2.W = nn.W ∧ n2.L.length ≤ (a - 1) * 7) ∧ Below w.heap.size w wx) (fun s6 _ => 8 - (intOf s6).toNat)
        case atStart => exact ⟨1, by omega, by omega, rfl, ⟨nn, U, HR.out, rfl, by rw [HNL.out]; simp⟩, HB.out⟩
        case round =>
          obtain ⟨a, ha1, ha8, rfl, ⟨n2, U2, hx2, hx2w, hx2l⟩, hbx⟩ := hrel
          have HX := Lib.hid hx2
          have HXW := Lib.hid hx2w
          have HBX := Lib.hid hbx
          clear hx2 hx2w hbx
          by_cases ha7 : a ≤ 7
          · have a7 : (a : Int) ≤ 7 := by omega
            go_wp2_with fail
            go_loopw [7] (fun s7 wy => ∃ b : Nat, 1 ≤ b ∧ b ≤ 8 ∧ s7 = .int .u64 (b : Int) ∧ (∃ (n3 : Nt) (U3 : Nat → Prop), Both hp w1.heap.size wy P w2.heap.size n3 nn.W (.slice none 0 0) vW U3 ∧ n3.W = nn.W ∧ n3.L.length ≤ (a - 1) * 7 + (b - 1)) ∧ Below w.heap.size w wy) (fun s7 _ => 8 - (intOf s7).toNat)
            case atStart => exact ⟨1, by omega, by omega, rfl, ⟨n2, U2, HX.out, HXW.out, by omega⟩, HBX.out⟩
            case round =>
              obtain ⟨b, hb1, hb8, rfl, ⟨n3, U3, hy3, hy3w, hy3l⟩, hby⟩ := hrel
              have HY := Lib.hid hy3
              have HYW := Lib.hid hy3w
              have HBY := Lib.hid hby
              clear hy3 hy3w hby
              by_cases hb7 : b ≤ 7
              · have b7 : (b : Int) ≤ 7 := by omega
                by_cases hm : (a, b) ∈ nn.W
                · have hdm : decide ((a, b) ∈ nn.W) = true := decide_eq_true hm
                  have HDM := Lib.hid hdm
                  have hRB := refBlocked_any w2.heap.size (.slice none 0 0) vW nn.W a b wr HY.out.blk HY.out.row.ways (by omega)
                  rw [HDM.out] at hRB
                  have HRB := Lib.hid hRB
                  clear hdm hRB
                  go_wp2_with fail
                  refine HRB.out.mono ?_
                  rintro e w8 ⟨rfl, rfl⟩
                  go_wp2_with fail
                  have hPB := hp.blocked a b HY.out.is_ (by omega) (by omega) (by rw [HYW.out]; omega)
                  rw [show n3.blocked a b = true by unfold Nt.blocked; rw [HYW.out, HDM.out]] at hPB
                  refine hPB.mono ?_
                  rintro e w9 ⟨rfl, hb9⟩
                  have HY9 := Lib.hid (HY.out.below hb9)
                  have HB9 := Lib.hid (HBY.out.trans (hb9.mono HBY.out.size))
                  clear hPB hb9
                  go_wp2_with fail
                  have hRB := refBlocked_any w2.heap.size (.slice none 0 0) vW nn.W a b w9 HY9.out.blk HY9.out.row.ways (by omega)
                  rw [HDM.out] at hRB
                  refine hRB.mono ?_
                  rintro e w10 ⟨rfl, rfl⟩
                  clear hRB
                  go_wp2_with fail
                  obtain ⟨s1, s2, s3⟩ := send_vote n3 nn.W a b HYW.out ha1 ha7 hb1 hb7 (by omega)
                  rw [if_pos hm] at s1
                  have hSD := hp.send (voteM a b 1) (.slice none 0 0) (.slice none 0 0) (.slice none 0 0) [] HY9.out.is_ (vote_has _ a b 1 (by omega) (by omega) (by decide)) (by rw [HYW.out]; omega)
                  rw [s1] at hSD
                  refine hSD.mono ?_
                  rintro e w11 ⟨rfl, ho11, U11, hi11, hu11⟩
                  have HY11 := Lib.hid (HY9.out.prog ho11 hi11 hu11)
                  have HB11 := Lib.hid (HB9.out.trans (OnlyS.below ho11 (fun k hk e => by have := HY9.out.uz k e; omega) HB9.out.size))
                  have HS2 := Lib.hid s2
                  have HS3 := Lib.hid s3
                  clear hSD s1 s2 s3 ho11 hi11 hu11
                  go_wp2_with fail
                  go_roundw
                  case rel => exact ⟨b + 1, by omega, by omega, by go_num, ⟨_, U11, HY11.out, HS2.out, by have := HS3.out; omega⟩, HB11.out⟩
                  case measure => simp [intOf]; omega
                · have hdm : decide ((a, b) ∈ nn.W) = false := decide_eq_false hm
                  have HDM := Lib.hid hdm
                  have hRB := refBlocked_any w2.heap.size (.slice none 0 0) vW nn.W a b wr HY.out.blk HY.out.row.ways (by omega)
                  rw [HDM.out] at hRB
                  have HRB := Lib.hid hRB
                  clear hdm hRB
                  go_wp2_with fail
                  refine HRB.out.mono ?_
                  rintro e w8 ⟨rfl, rfl⟩
                  go_wp2_with fail
                  have hPB := hp.blocked a b HY.out.is_ (by omega) (by omega) (by rw [HYW.out]; omega)
                  rw [show n3.blocked a b = false by unfold Nt.blocked; rw [HYW.out, HDM.out]] at hPB
                  refine hPB.mono ?_
                  rintro e w9 ⟨rfl, hb9⟩
                  have HY9 := Lib.hid (HY.out.below hb9)
                  have HB9 := Lib.hid (HBY.out.trans (hb9.mono HBY.out.size))
                  clear hPB hb9
                  go_wp2_with fail
                  have hRB := refBlocked_any w2.heap.size (.slice none 0 0) vW nn.W a b w9 HY9.out.blk HY9.out.row.ways (by omega)
                  rw [HDM.out] at hRB
                  refine hRB.mono ?_
                  rintro e w10 ⟨rfl, rfl⟩
                  clear hRB
                  go_wp2_with fail
                  obtain ⟨s1, s2, s3⟩ := send_vote n3 nn.W a b HYW.out ha1 ha7 hb1 hb7 (by omega)
                  rw [if_neg hm] at s1
                  have hSD := hp.send (voteM a b 1) (.slice none 0 0) (.slice none 0 0) (.slice none 0 0) [] HY9.out.is_ (vote_has _ a b 1 (by omega) (by omega) (by decide)) (by rw [HYW.out]; omega)
                  rw [s1] at hSD
                  refine hSD.mono ?_
                  rintro e w11 ⟨rfl, ho11, U11, hi11, hu11⟩
                  have HY11 := Lib.hid (HY9.out.prog ho11 hi11 hu11)
                  have HB11 := Lib.hid (HB9.out.trans (OnlyS.below ho11 (fun k hk e => by have := HY9.out.uz k e; omega) HB9.out.size))
                  have HS2 := Lib.hid s2
                  have HS3 := Lib.hid s3
                  clear hSD s1 s2 s3 ho11 hi11 hu11
                  go_wp2_with fail
                  go_roundw
                  case rel => exact ⟨b + 1, by omega, by omega, by go_num, ⟨_, U11, HY11.out, HS2.out, by have := HS3.out; omega⟩, HB11.out⟩
                  case measure => simp [intOf]; omega
              · have b7 : ¬ (b : Int) ≤ 7 := by omega
                obtain rfl : b = 8 := by omega
                go_wp2_with fail
                go_roundw
                case rel => exact ⟨a + 1, by omega, by omega, by go_num, ⟨n3, U3, HY.out, HYW.out, by omega⟩, HBY.out⟩
                case measure => simp [intOf]; omega
          · have a7 : ¬ (a : Int) ≤ 7 := by omega
            go_wp2
            go_ret
            exact ⟨rfl, HBX.out⟩
      · have i1 : ¬ (i : Int) < (n : Int) := by omega
        clear hlt
        have hz := HB1.out.size
        go_wp2_with fail
        go_loopw [6] (fun s6 wx => ∃ a : Nat, 1 ≤ a ∧ a ≤ 8 ∧ s6 = .int .u64 (a : Int) ∧ (∃ (n2 : Nt) (U2 : Nat → Prop), Both hp w1.heap.size wx P w2.heap.size n2 nn.W (.slice none 0 0) vW U2 ∧ n2.W = nn.W ∧ n2.L.length ≤ (a - 1) * 7) ∧ Below w.heap.size w wx) (fun s6 _ => 8 - (intOf s6).toNat)
        case atStart => exact ⟨1, by omega, by omega, rfl, ⟨nn, U, HR.out, rfl, by rw [HNL.out]; simp⟩, HB.out⟩
        case round =>
          obtain ⟨a, ha1, ha8, rfl, ⟨n2, U2, hx2, hx2w, hx2l⟩, hbx⟩ := hrel
          have HX := Lib.hid hx2
          have HXW := Lib.hid hx2w
          have HBX := Lib.hid hbx
          clear hx2 hx2w hbx
          by_cases ha7 : a ≤ 7
          · have a7 : (a : Int) ≤ 7 := by omega
            go_wp2_with fail
            go_loopw [7] (fun s7 wy => ∃ b : Nat, 1 ≤ b ∧ b ≤ 8 ∧ s7 = .int .u64 (b : Int) ∧ (∃ (n3 : Nt) (U3 : Nat → Prop), Both hp w1.heap.size wy P w2.heap.size n3 nn.W (.slice none 0 0) vW U3 ∧ n3.W = nn.W ∧ n3.L.length ≤ (a - 1) * 7 + (b - 1)) ∧ Below w.heap.size w wy) (fun s7 _ => 8 - (intOf s7).toNat)
            case atStart => exact ⟨1, by omega, by omega, rfl, ⟨n2, U2, HX.out, HXW.out, by omega⟩, HBX.out⟩
            case round =>
              obtain ⟨b, hb1, hb8, rfl, ⟨n3, U3, hy3, hy3w, hy3l⟩, hby⟩ := hrel
              have HY := Lib.hid hy3
              have HYW := Lib.hid hy3w
              have HBY := Lib.hid hby
              clear hy3 hy3w hby
              by_cases hb7 : b ≤ 7
              · have b7 : (b : Int) ≤ 7 := by omega
                by_cases hm : (a, b) ∈ nn.W
                · have hdm : decide ((a, b) ∈ nn.W) = true := decide_eq_true hm
                  have HDM := Lib.hid hdm
                  have hRB := refBlocked_any w2.heap.size (.slice none 0 0) vW nn.W a b wr HY.out.blk HY.out.row.ways (by omega)
                  rw [HDM.out] at hRB
                  have HRB := Lib.hid hRB
                  clear hdm hRB
                  go_wp2_with fail
                  refine HRB.out.mono ?_
                  rintro e w8 ⟨rfl, rfl⟩
                  go_wp2_with fail
                  have hPB := hp.blocked a b HY.out.is_ (by omega) (by omega) (by rw [HYW.out]; omega)
                  rw [show n3.blocked a b = true by unfold Nt.blocked; rw [HYW.out, HDM.out]] at hPB
                  refine hPB.mono ?_
                  rintro e w9 ⟨rfl, hb9⟩
                  have HY9 := Lib.hid (HY.out.below hb9)
                  have HB9 := Lib.hid (HBY.out.trans (hb9.mono HBY.out.size))
                  clear hPB hb9
                  go_wp2_with fail
                  have hRB := refBlocked_any w2.heap.size (.slice none 0 0) vW nn.W a b w9 HY9.out.blk HY9.out.row.ways (by omega)
                  rw [HDM.out] at hRB
                  refine hRB.mono ?_
                  rintro e w10 ⟨rfl, rfl⟩
                  clear hRB
                  go_wp2_with fail
                  obtain ⟨s1, s2, s3⟩ := send_vote n3 nn.W a b HYW.out ha1 ha7 hb1 hb7 (by omega)
                  rw [if_pos hm] at s1
                  have hSD := hp.send (voteM a b 1) (.slice none 0 0) (.slice none 0 0) (.slice none 0 0) [] HY9.out.is_ (vote_has _ a b 1 (by omega) (by omega) (by decide)) (by rw [HYW.out]; omega)
                  rw [s1] at hSD
                  refine hSD.mono ?_
                  rintro e w11 ⟨rfl, ho11, U11, hi11, hu11⟩
                  have HY11 := Lib.hid (HY9.out.prog ho11 hi11 hu11)
                  have HB11 := Lib.hid (HB9.out.trans (OnlyS.below ho11 (fun k hk e => by have := HY9.out.uz k e; omega) HB9.out.size))
                  have HS2 := Lib.hid s2
                  have HS3 := Lib.hid s3
                  clear hSD s1 s2 s3 ho11 hi11 hu11
                  go_wp2_with fail
                  go_roundw
                  case rel => exact ⟨b + 1, by omega, by omega, by go_num, ⟨_, U11, HY11.out, HS2.out, by have := HS3.out; omega⟩, HB11.out⟩
                  case measure => simp [intOf]; omega
                · have hdm : decide ((a, b) ∈ nn.W) = false := decide_eq_false hm
                  have HDM := Lib.hid hdm
                  have hRB := refBlocked_any w2.heap.size (.slice none 0 0) vW nn.W a b wr HY.out.blk HY.out.row.ways (by omega)
                  rw [HDM.out] at hRB
                  have HRB := Lib.hid hRB
                  clear hdm hRB
                  go_wp2_with fail
                  refine HRB.out.mono ?_
                  rintro e w8 ⟨rfl, rfl⟩
                  go_wp2_with fail
                  have hPB := hp.blocked a b HY.out.is_ (by omega) (by omega) (by rw [HYW.out]; omega)
                  rw [show n3.blocked a b = false by unfold Nt.blocked; rw [HYW.out, HDM.out]] at hPB
                  refine hPB.mono ?_
                  rintro e w9 ⟨rfl, hb9⟩
                  have HY9 := Lib.hid (HY.out.below hb9)
                  have HB9 := Lib.hid (HBY.out.trans (hb9.mono HBY.out.size))
                  clear hPB hb9
                  go_wp2_with fail
                  have hRB := refBlocked_any w2.heap.size (.slice none 0 0) vW nn.W a b w9 HY9.out.blk HY9.out.row.ways (by omega)
                  rw [HDM.out] at hRB
                  refine hRB.mono ?_
                  rintro e w10 ⟨rfl, rfl⟩
                  clear hRB
                  go_wp2_with fail
                  obtain ⟨s1, s2, s3⟩ := send_vote n3 nn.W a b HYW.out ha1 ha7 hb1 hb7 (by omega)
                  rw [if_neg hm] at s1
                  have hSD := hp.send (voteM a b 1) (.slice none 0 0) (.slice none 0 0) (.slice none 0 0) [] HY9.out.is_ (vote_has _ a b 1 (by omega) (by omega) (by decide)) (by rw [HYW.out]; omega)
                  rw [s1] at hSD
                  refine hSD.mono ?_
                  rintro e w11 ⟨rfl, ho11, U11, hi11, hu11⟩
                  have HY11 := Lib.hid (HY9.out.prog ho11 hi11 hu11)
                  have HB11 := Lib.hid (HB9.out.trans (OnlyS.below ho11 (fun k hk e => by have := HY9.out.uz k e; omega) HB9.out.size))
                  have HS2 := Lib.hid s2
                  have HS3 := Lib.hid s3
                  clear hSD s1 s2 s3 ho11 hi11 hu11
                  go_wp2_with fail
                  go_roundw
                  case rel => exact ⟨b + 1, by omega, by omega, by go_num, ⟨_, U11, HY11.out, HS2.out, by have := HS3.out; omega⟩, HB11.out⟩
                  case measure => simp [intOf]; omega
              · have b7 : ¬ (b : Int) ≤ 7 := by omega
                obtain rfl : b = 8 := by omega
                go_wp2_with fail
                go_roundw
                case rel => exact ⟨a + 1, by omega, by omega, by go_num, ⟨n3, U3, HY.out, HYW.out, by omega⟩, HBY.out⟩
                case measure => simp [intOf]; omega
          · have a7 : ¬ (a : Int) ≤ 7 := by omega
            go_wp2
            go_ret
            exact ⟨rfl, HBX.out⟩
end Go.Proofs.Ytgbhfolbkgibfaa

