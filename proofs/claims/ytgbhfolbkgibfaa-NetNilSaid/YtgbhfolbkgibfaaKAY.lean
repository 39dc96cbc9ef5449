/- Joined: MsgSame, MsgSt, MsgTaker, Stores, MsgStores, MsgBare, MsgGetKit, MsgRefGetA, MsgGetKit2. -/
import Derived.Test.YtgbhfolbkgibfaaKAX
import Derived.Test.YtgbhfolbkgibfaaKAL
import Derived.Test.YtgbhfolbkgibfaaKAB
import Derived.Test.YtgbhfolbkgibfaaKAO
import Derived.Test.YtgbhfolbkgibfaaKAH
import Derived.Test.YtgbhfolbkgibfaaKAI
import Derived.Test.YtgbhfolbkgibfaaCmdEntryK
/- Layer 18: Same. -/
namespace Go.Proofs.Ytgbhfolbkgibfaa
set_option maxRecDepth 20000
open Go.RowKit BinMath CmdMath
open MsgMath (Mg)

set_option maxHeartbeats 4000000 in
theorem msgSame_any (M Q : Mg) (ve vm vg ve' vm' vg' : Value) (us vs : List EE) (w : World) (hM : MHas w M ve vm vg us) (hQ : MHas w Q ve' vm' vg' vs) :
    Calls Try.prog 38 #[.agg (mgC M ve vm vg), .agg (mgC Q ve' vm' vg')] w fun r w' => r = .returned (.bool (decide (M = Q))) ∧ Below w.heap.size w w' := by
  obtain ⟨-, hel, hal, hen, hnm, hbg, hul, hml, hgl⟩ := hM
  obtain ⟨a, ca, rfl⟩ := hel.form
  obtain ⟨b, cb, rfl⟩ := hnm.shape
  obtain ⟨d, cd, rfl⟩ := hbg.shape
  obtain ⟨k, f, o, t, i, l, c, s, y, e, m, g⟩ := M
  obtain ⟨na, hna⟩ : ∃ n, n = us.length := ⟨_, rfl⟩
  obtain ⟨nb, hnb⟩ : ∃ n, n = m.length := ⟨_, rfl⟩
  obtain ⟨nd, hnd⟩ : ∃ n, n = g.length := ⟨_, rfl⟩
  simp only [mgC] at hen hnm hbg hml hgl ⊢
  rw [← hna] at hel
  rw [← hnb] at hnm
  rw [← hnd] at hbg
  rw [← hna, ← hnb, ← hnd]
  clear hna hnb hnd
  obtain ⟨-, hel', hal', hen', hnm', hbg', hul', hml', hgl'⟩ := hQ
  obtain ⟨a', ca', rfl⟩ := hel'.form
  obtain ⟨b', cb', rfl⟩ := hnm'.shape
  obtain ⟨d', cd', rfl⟩ := hbg'.shape
  obtain ⟨k', f', o', t', i', l', c', s', y', e', m', g'⟩ := Q
  obtain ⟨na', hna'⟩ : ∃ n, n = vs.length := ⟨_, rfl⟩
  obtain ⟨nb', hnb'⟩ : ∃ n, n = m'.length := ⟨_, rfl⟩
  obtain ⟨nd', hnd'⟩ : ∃ n, n = g'.length := ⟨_, rfl⟩
  dsimp only at hen' hnm' hbg' hml' hgl' ⊢
  rw [← hna'] at hel'
  rw [← hnb'] at hnm'
  rw [← hnd'] at hbg'
  rw [← hna', ← hnb', ← hnd']
  clear hna' hnb' hnd'
  obtain ⟨w1, hw1⟩ : ∃ w1, w1 = (w.alloc (.cells #[.int .i64 k, .int .u64 (f : Int), .int .u64 (o : Int), .int .u64 (t : Int), .int .u64 (i : Int), .int .u64 (l : Int), .int .u64 (c : Int), .int .u64 (s : Int), .bool y, .slice a na ca, .slice b nb cb, .slice d nd cd] 36)).alloc (.cells #[.int .i64 k', .int .u64 (f' : Int), .int .u64 (o' : Int), .int .u64 (t' : Int), .int .u64 (i' : Int), .int .u64 (l' : Int), .int .u64 (c' : Int), .int .u64 (s' : Int), .bool y', .slice a' na' ca', .slice b' nb' cb', .slice d' nd' cd'] 36) := ⟨_, rfl⟩
  have hb1 : Below w.heap.size w w1 := by rw [hw1]; exact boxes w _ _ _
  have HB := Lib.hid hb1
  have hs1 : w1.heap.size = w.heap.size + 2 := by rw [hw1]; simp
  have hls := equalFunc_any _ _ us vs w1 (hel.below (Nat.le_refl _) hb1) (hel'.below (Nat.le_refl _) hb1) (hal.below (Nat.le_refl _) hb1) (hal'.below (Nat.le_refl _) hb1) hul
  have hn := fun (W : World) (hW : Below w1.heap.size w1 W) => eqNums_any _ _ m m' W ((hnm.below (Nat.le_refl _) hb1).below (Nat.le_refl _) hW) ((hnm'.below (Nat.le_refl _) hb1).below (Nat.le_refl _) hW) hml
  have hq := fun (W : World) (hW : Below w1.heap.size w1 W) => equal_any (.slice d nd cd) (.slice d' nd' cd') g g' W ((hbg.below (Nat.le_refl _) hb1).below (Nat.le_refl _) hW) ((hbg'.below (Nat.le_refl _) hb1).below (Nat.le_refl _) hW)
  have K1 : Blk w1 w.heap.size 36 #[.int .i64 k, .int .u64 (f : Int), .int .u64 (o : Int), .int .u64 (t : Int), .int .u64 (i : Int), .int .u64 (l : Int), .int .u64 (c : Int), .int .u64 (s : Int), .bool y, .slice a na ca, .slice b nb cb, .slice d nd cd] := by rw [hw1]; exact Blk.keep (Blk.new w _ _) ((Below.refl _ _).alloc (Nat.le_refl _) _)
  have K2 : Blk w1 (w.heap.size + 1) 36 #[.int .i64 k', .int .u64 (f' : Int), .int .u64 (o' : Int), .int .u64 (t' : Int), .int .u64 (i' : Int), .int .u64 (l' : Int), .int .u64 (c' : Int), .int .u64 (s' : Int), .bool y', .slice a' na' ca', .slice b' nb' cb', .slice d' nd' cd'] := by rw [hw1]; have h := Blk.new (w.alloc (.cells #[.int .i64 k, .int .u64 (f : Int), .int .u64 (o : Int), .int .u64 (t : Int), .int .u64 (i : Int), .int .u64 (l : Int), .int .u64 (c : Int), .int .u64 (s : Int), .bool y, .slice a na ca, .slice b nb cb, .slice d nd cd] 36)) 36 #[.int .i64 k', .int .u64 (f' : Int), .int .u64 (o' : Int), .int .u64 (t' : Int), .int .u64 (i' : Int), .int .u64 (l' : Int), .int .u64 (c' : Int), .int .u64 (s' : Int), .bool y', .slice a' na' ca', .slice b' nb' cb', .slice d' nd' cd']; rwa [World.size_alloc] at h
  have K10 : Hid (w1.cell? ⟨w.heap.size, 10, none⟩ = some (.slice b nb cb)) := Lib.hid (by rw [K1.cell]; rfl)
  have K11 : Hid (w1.cell? ⟨w.heap.size, 11, none⟩ = some (.slice d nd cd)) := Lib.hid (by rw [K1.cell]; rfl)
  have L10 : Hid (w1.cell? ⟨w.heap.size + 1, 10, none⟩ = some (.slice b' nb' cb')) := Lib.hid (by rw [K2.cell]; rfl)
  have L11 : Hid (w1.cell? ⟨w.heap.size + 1, 11, none⟩ = some (.slice d' nd' cd')) := Lib.hid (by rw [K2.cell]; rfl)
  have HS1 := Lib.hid hs1
  clear hel hel' hal hal' hnm hnm' hbg hbg' hul hul' hml hml' hgl hgl' hb1 K1 K2 hs1
  subst hw1
  by_cases hk : k = k'
  · subst hk
    by_cases hf : f = f'
    · subst hf
      by_cases ho : o = o'
      · subst ho
        by_cases ht : t = t'
        · subst ht
          by_cases hi : i = i'
          · subst hi
            by_cases hl : l = l'
            · subst hl
              by_cases hc : c = c'
              · subst hc
                by_cases hs : s = s'
                · subst hs
                  by_cases hy : y = y'
                  · subst hy
                    have HLs := hls
                    by_cases he : e = e'
                    · subst he
                      rw [decide_eq_true (show us.map EE.e = vs.map EE.e by rw [hen, hen'])] at HLs
                      have HL := Lib.hid HLs
                      clear HLs hls hen hen'
                      by_cases hm : m = m'
                      · subst hm
                        by_cases hg : g = g'
                        · have HG := Lib.hid hg
                          have HM := Lib.hid (rfl : m = m)
                          clear hg
                          go_enter Try.func38, Try.ntmps38
                          go_wp2_with fail
                          refine HL.out.mono ?_
                          rintro r w2 ⟨rfl, hb2⟩
                          have ka10 : w2.cell? ⟨w.heap.size, 10, none⟩ = some (.slice b nb cb) := by rw [hb2.cell (p := ⟨w.heap.size, 10, none⟩) (by simp; omega)]; exact K10.out
                          have kb10 : w2.cell? ⟨w.heap.size + 1, 10, none⟩ = some (.slice b' nb' cb') := by rw [hb2.cell (p := ⟨w.heap.size + 1, 10, none⟩) (by simp)]; exact L10.out
                          have ka11 : w2.cell? ⟨w.heap.size, 11, none⟩ = some (.slice d nd cd) := by rw [hb2.cell (p := ⟨w.heap.size, 11, none⟩) (by simp; omega)]; exact K11.out
                          have kb11 : w2.cell? ⟨w.heap.size + 1, 11, none⟩ = some (.slice d' nd' cd') := by rw [hb2.cell (p := ⟨w.heap.size + 1, 11, none⟩) (by simp)]; exact L11.out
                          have HB2 := Lib.hid (HB.out.trans (hb2.mono HB.out.size))
                          have HN := Lib.hid (hn w2 hb2)
                          have HQ := Lib.hid (fun nq => hq _ (below_drewN hb2 nq))
                          clear hb2 hn hq
                          rw [decide_eq_true HM.out] at HN
                          go_wp2_with fail
                          refine HN.out.mono ?_
                          rintro r w3 ⟨rfl, nq, rfl⟩
                          go_wp2_with fail
                          refine (HQ.out nq).mono ?_
                          rintro r w4 ⟨rfl, rfl⟩
                          rw [decide_eq_true HG.out]
                          go_wp2
                          go_ret
                          exact ⟨congrArg (fun b => Ending.returned (Value.bool b)) (decide_eq_true (by rw [HG.out])).symm, below_drewN HB2.out nq⟩
                        · rw [decide_eq_false (show ¬ ((⟨k, f, o, t, i, l, c, s, y, e, m, g⟩ : Mg) = ⟨k, f, o, t, i, l, c, s, y, e, m, g'⟩) from fun h => hg (by injection h))]
                          have HG := Lib.hid hg
                          have HM := Lib.hid (rfl : m = m)
                          clear hg
                          go_enter Try.func38, Try.ntmps38
                          go_wp2_with fail
                          refine HL.out.mono ?_
                          rintro r w2 ⟨rfl, hb2⟩
                          have ka10 : w2.cell? ⟨w.heap.size, 10, none⟩ = some (.slice b nb cb) := by rw [hb2.cell (p := ⟨w.heap.size, 10, none⟩) (by simp; omega)]; exact K10.out
                          have kb10 : w2.cell? ⟨w.heap.size + 1, 10, none⟩ = some (.slice b' nb' cb') := by rw [hb2.cell (p := ⟨w.heap.size + 1, 10, none⟩) (by simp)]; exact L10.out
                          have ka11 : w2.cell? ⟨w.heap.size, 11, none⟩ = some (.slice d nd cd) := by rw [hb2.cell (p := ⟨w.heap.size, 11, none⟩) (by simp; omega)]; exact K11.out
                          have kb11 : w2.cell? ⟨w.heap.size + 1, 11, none⟩ = some (.slice d' nd' cd') := by rw [hb2.cell (p := ⟨w.heap.size + 1, 11, none⟩) (by simp)]; exact L11.out
                          have HB2 := Lib.hid (HB.out.trans (hb2.mono HB.out.size))
                          have HN := Lib.hid (hn w2 hb2)
                          have HQ := Lib.hid (fun nq => hq _ (below_drewN hb2 nq))
                          clear hb2 hn hq
                          rw [decide_eq_true HM.out] at HN
                          go_wp2_with fail
                          refine HN.out.mono ?_
                          rintro r w3 ⟨rfl, nq, rfl⟩
                          go_wp2_with fail
                          refine (HQ.out nq).mono ?_
                          rintro r w4 ⟨rfl, rfl⟩
                          rw [decide_eq_false HG.out]
                          go_wp2
                          go_ret
                          exact ⟨rfl, below_drewN HB2.out nq⟩
                      · rw [decide_eq_false (show ¬ ((⟨k, f, o, t, i, l, c, s, y, e, m, g⟩ : Mg) = ⟨k, f, o, t, i, l, c, s, y, e, m', g'⟩) from fun h => hm (by injection h))]
                        have HM := Lib.hid hm
                        clear hm
                        go_enter Try.func38, Try.ntmps38
                        go_wp2_with fail
                        refine HL.out.mono ?_
                        rintro r w2 ⟨rfl, hb2⟩
                        have ka10 : w2.cell? ⟨w.heap.size, 10, none⟩ = some (.slice b nb cb) := by rw [hb2.cell (p := ⟨w.heap.size, 10, none⟩) (by simp; omega)]; exact K10.out
                        have kb10 : w2.cell? ⟨w.heap.size + 1, 10, none⟩ = some (.slice b' nb' cb') := by rw [hb2.cell (p := ⟨w.heap.size + 1, 10, none⟩) (by simp)]; exact L10.out
                        have ka11 : w2.cell? ⟨w.heap.size, 11, none⟩ = some (.slice d nd cd) := by rw [hb2.cell (p := ⟨w.heap.size, 11, none⟩) (by simp; omega)]; exact K11.out
                        have kb11 : w2.cell? ⟨w.heap.size + 1, 11, none⟩ = some (.slice d' nd' cd') := by rw [hb2.cell (p := ⟨w.heap.size + 1, 11, none⟩) (by simp)]; exact L11.out
                        have HB2 := Lib.hid (HB.out.trans (hb2.mono HB.out.size))
                        have HN := Lib.hid (hn w2 hb2)
                        clear hb2 hn hq
                        rw [decide_eq_false HM.out] at HN
                        go_wp2_with fail
                        refine HN.out.mono ?_
                        rintro r w3 ⟨rfl, nq, rfl⟩
                        go_wp2
                        go_ret
                        exact ⟨rfl, below_drewN HB2.out nq⟩
                    · rw [decide_eq_false (show ¬ ((⟨k, f, o, t, i, l, c, s, y, e, m, g⟩ : Mg) = ⟨k, f, o, t, i, l, c, s, y, e', m', g'⟩) from fun h => he (by injection h))]
                      rw [decide_eq_false (show ¬ us.map EE.e = vs.map EE.e by rw [hen, hen']; exact he)] at HLs
                      have HL := Lib.hid HLs
                      clear HLs hls hen hen' he hn hq
                      go_enter Try.func38, Try.ntmps38
                      go_wp2_with fail
                      refine HL.out.mono ?_
                      rintro r w2 ⟨rfl, hb2⟩
                      have HB2 := Lib.hid (HB.out.trans (hb2.mono HB.out.size))
                      clear hb2
                      go_wp2
                      go_ret
                      exact ⟨rfl, HB2.out⟩
                  · have q : (y == y') = false := by simpa using hy
                    rw [decide_eq_false (show ¬ ((⟨k, f, o, t, i, l, c, s, y, e, m, g⟩ : Mg) = ⟨k, f, o, t, i, l, c, s, y', e', m', g'⟩) from fun h => hy (by injection h))]
                    clear hy
                    go_enter Try.func38, Try.ntmps38
                    go_wp2
                    go_ret
                    exact ⟨rfl, HB.out⟩
                · have q : ((s : Int) == (s' : Int)) = false := beq_false_of_ne (by omega)
                  rw [decide_eq_false (show ¬ ((⟨k, f, o, t, i, l, c, s, y, e, m, g⟩ : Mg) = ⟨k, f, o, t, i, l, c, s', y', e', m', g'⟩) from fun h => hs (by injection h))]
                  clear hs
                  go_enter Try.func38, Try.ntmps38
                  go_wp2
                  go_ret
                  exact ⟨rfl, HB.out⟩
              · have q : ((c : Int) == (c' : Int)) = false := beq_false_of_ne (by omega)
                rw [decide_eq_false (show ¬ ((⟨k, f, o, t, i, l, c, s, y, e, m, g⟩ : Mg) = ⟨k, f, o, t, i, l, c', s', y', e', m', g'⟩) from fun h => hc (by injection h))]
                clear hc
                go_enter Try.func38, Try.ntmps38
                go_wp2
                go_ret
                exact ⟨rfl, HB.out⟩
            · have q : ((l : Int) == (l' : Int)) = false := beq_false_of_ne (by omega)
              rw [decide_eq_false (show ¬ ((⟨k, f, o, t, i, l, c, s, y, e, m, g⟩ : Mg) = ⟨k, f, o, t, i, l', c', s', y', e', m', g'⟩) from fun h => hl (by injection h))]
              clear hl
              go_enter Try.func38, Try.ntmps38
              go_wp2
              go_ret
              exact ⟨rfl, HB.out⟩
          · have q : ((i : Int) == (i' : Int)) = false := beq_false_of_ne (by omega)
            rw [decide_eq_false (show ¬ ((⟨k, f, o, t, i, l, c, s, y, e, m, g⟩ : Mg) = ⟨k, f, o, t, i', l', c', s', y', e', m', g'⟩) from fun h => hi (by injection h))]
            clear hi
            go_enter Try.func38, Try.ntmps38
            go_wp2
            go_ret
            exact ⟨rfl, HB.out⟩
        · have q : ((t : Int) == (t' : Int)) = false := beq_false_of_ne (by omega)
          rw [decide_eq_false (show ¬ ((⟨k, f, o, t, i, l, c, s, y, e, m, g⟩ : Mg) = ⟨k, f, o, t', i', l', c', s', y', e', m', g'⟩) from fun h => ht (by injection h))]
          clear ht
          go_enter Try.func38, Try.ntmps38
          go_wp2
          go_ret
          exact ⟨rfl, HB.out⟩
      · have q : ((o : Int) == (o' : Int)) = false := beq_false_of_ne (by omega)
        rw [decide_eq_false (show ¬ ((⟨k, f, o, t, i, l, c, s, y, e, m, g⟩ : Mg) = ⟨k, f, o', t', i', l', c', s', y', e', m', g'⟩) from fun h => ho (by injection h))]
        clear ho
        go_enter Try.func38, Try.ntmps38
        go_wp2
        go_ret
        exact ⟨rfl, HB.out⟩
    · have q : ((f : Int) == (f' : Int)) = false := beq_false_of_ne (by omega)
      rw [decide_eq_false (show ¬ ((⟨k, f, o, t, i, l, c, s, y, e, m, g⟩ : Mg) = ⟨k, f', o', t', i', l', c', s', y', e', m', g'⟩) from fun h => hf (by injection h))]
      clear hf
      go_enter Try.func38, Try.ntmps38
      go_wp2
      go_ret
      exact ⟨rfl, HB.out⟩
  · have q : (k == k') = false := beq_false_of_ne (by omega)
    rw [decide_eq_false (show ¬ ((⟨k, f, o, t, i, l, c, s, y, e, m, g⟩ : Mg) = ⟨k', f', o', t', i', l', c', s', y', e', m', g'⟩) from fun h => hk (by injection h))]
    clear hk
    go_enter Try.func38, Try.ntmps38
    go_wp2
    go_ret
    exact ⟨rfl, HB.out⟩
end Go.Proofs.Ytgbhfolbkgibfaa

/- Layer 18: readings one behind the other, of which the first fault is kept. No program is named here. -/
namespace Go.Proofs.Ytgbhfolbkgibfaa.MsgMath
set_option maxRecDepth 20000
open BinMath CmdMath

/-- A reading under way: the first fault, or what is left. -/
abbrev St := Except Nat (List UInt8)
def codeS : St → Nat
  | .error c => c
  | .ok _ => 0
def thru {α : Type} (p : Rd α) : St → Except Nat (α × List UInt8)
  | .error c => .error c
  | .ok r => p r
def tag {α : Type} (x : α) : St → Except Nat (α × List UInt8)
  | .error c => .error c
  | .ok r => .ok (x, r)

theorem thru_bind {α β : Type} {p : Rd α} {q : α → Rd β} {st st' : St} {x : α} (h : thru p st = tag x st') : thru (bindP p q) st = thru (q x) st' := by
  cases st with
  | error c =>
    cases st' with
    | error d => simp only [thru, tag, Except.error.injEq] at h ⊢; exact h
    | ok r => cases h
  | ok r =>
    cases st' with
    | error d => exact bindP_err (show p r = .error d from h)
    | ok q' => exact bindP_ok (show p r = .ok (x, q') from h)
theorem thru_ret {α : Type} (x : α) (st : St) : thru (retP x) st = tag x st := by cases st <;> rfl
theorem thru_err {α : Type} {p : Rd α} {st : St} {c : Nat} (h : st = .error c) : thru p st = .error c := by rw [h]; rfl
theorem tag_err {α : Type} {x : α} {st : St} {c : Nat} (h : st = .error c) : tag x st = .error c := by rw [h]; rfl

theorem codeS_ok {st : St} (he : ∀ c, st = .error c → 2 ≤ c ∧ c ≤ 5) (h : codeS st = 0) : ∃ r, st = .ok r := by
  cases st with
  | error c => have := he c rfl; simp only [codeS] at h; omega
  | ok r => exact ⟨r, rfl⟩
theorem codeS_err {st : St} (h : codeS st ≠ 0) : st = .error (codeS st) := by
  cases st with
  | error c => rfl
  | ok r => exact absurd rfl h

theorem gNum_lt {r q : List UInt8} {n : Nat} (h : gNum r = .ok (n, q)) : n < 18446744073709551616 := (gNum_back h).1
/-- A number of any range. -/
theorem gRange_most : gRange 0 18446744073709551615 = gNum := by
  funext r
  cases h : gNum r with
  | error c => exact bindP_err h
  | ok p =>
    obtain ⟨n, q⟩ := p
    rw [gRange, bindP_ok h, if_pos ⟨Nat.zero_le _, by have := gNum_lt h; omega⟩]
    rfl
theorem gRange_bad {lo hi c : Nat} {r : List UInt8} (h : gNum r = .error c) : gRange lo hi r = .error c := bindP_err h
theorem gRange_in {lo hi n : Nat} {r q : List UInt8} (h : gNum r = .ok (n, q)) (h1 : lo ≤ n) (h2 : n ≤ hi) : gRange lo hi r = .ok (n, q) := by rw [gRange, bindP_ok h, if_pos ⟨h1, h2⟩]; rfl
theorem gRange_out {lo hi n : Nat} {r q : List UInt8} (h : gNum r = .ok (n, q)) (h1 : ¬ (lo ≤ n ∧ n ≤ hi)) : gRange lo hi r = .error 3 := by rw [gRange, bindP_ok h, if_neg h1]; rfl
theorem gByte_err {l : List UInt8} {c : Nat} (h : gByte l = .error c) : c = 2 := by
  cases l with
  | nil => simpa [gByte] using h.symm
  | cons x r => simp [gByte] at h
theorem gYes_bad {c : Nat} {r : List UInt8} (h : gByte r = .error c) : gYes r = .error c := bindP_err h
theorem gYes_in {n : Nat} {r q : List UInt8} (h : gByte r = .ok (n, q)) (h1 : n ≤ 1) : gYes r = .ok (decide (n = 1), q) := by rw [gYes, bindP_ok h, if_pos h1]; rfl
theorem gYes_out {n : Nat} {r q : List UInt8} (h : gByte r = .ok (n, q)) (h1 : ¬ n ≤ 1) : gYes r = .error 3 := by rw [gYes, bindP_ok h, if_neg h1]; rfl

/-- What Get answers, by its last state. -/
theorem getM_fault {l : List UInt8} {c : Nat} (h : gMsg l = .error c) : getM l = (Mg.zero, c) := by rw [getM, h]
theorem getM_done {l r : List UInt8} {m : Mg} (h : gMsg l = .ok (m, r)) : getM l = if r = [] then (m, 0) else (Mg.zero, 5) := by rw [getM, h]

/-! ### A message, reading by reading -/

theorem msg_nobyte {l : List UInt8} {c : Nat} (h : gByte l = .error c) : gMsg l = .error c := bindP_err h
theorem msg_nokind {l q : List UInt8} {k : Nat} (h : gByte l = .ok (k, q)) (hk : ¬ (1 ≤ k ∧ k ≤ 5)) : gMsg l = .error 3 := by rw [gMsg, bindP_ok h, if_neg hk]; rfl
theorem msg_head {l q : List UInt8} {k f o t : Nat} {s1 s2 s3 : St} (h : gByte l = .ok (k, q)) (hk : 1 ≤ k ∧ k ≤ 5) (h1 : thru (gRange 1 7) (.ok q) = tag f s1) (h2 : thru (gRange 1 7) s1 = tag o s2) (h3 : thru (gRange 1 MT) s2 = tag t s3) :
    gMsg l = thru (gBody k f o t) s3 := by
  have e : gMsg l = thru (bindP (gRange 1 7) fun f => bindP (gRange 1 7) fun o => bindP (gRange 1 MT) fun t => gBody k f o t) (.ok q) := by rw [gMsg, bindP_ok h, if_pos hk]; rfl
  rw [e, thru_bind h1, thru_bind h2, thru_bind h3]
theorem body_1 {f o t i l : Nat} {s3 s4 s5 : St} (h4 : thru (gRange 0 MT) s3 = tag i s4) (h5 : thru (gRange 0 MT) s4 = tag l s5) : thru (gBody 1 f o t) s3 = tag (⟨1, f, o, t, i, l, 0, 0, false, [], [], []⟩ : Mg) s5 := by
  rw [gBody, if_pos rfl, thru_bind h4, thru_bind h5, thru_ret]
theorem body_2 {f o t : Nat} {y : Bool} {s3 s4 : St} (h4 : thru gYes s3 = tag y s4) : thru (gBody 2 f o t) s3 = tag (⟨2, f, o, t, 0, 0, 0, 0, y, [], [], []⟩ : Mg) s4 := by
  rw [gBody, if_neg (by decide), if_pos rfl, thru_bind h4, thru_ret]
theorem body_4 {f o t i s : Nat} {y : Bool} {s3 s4 s5 s6 : St} (h4 : thru gYes s3 = tag y s4) (h5 : thru (gRange 0 MT) s4 = tag i s5) (h6 : thru (gRange 0 18446744073709551615) s5 = tag s s6) : thru (gBody 4 f o t) s3 = tag (⟨4, f, o, t, i, 0, 0, s, y, [], [], []⟩ : Mg) s6 := by
  rw [gRange_most] at h6
  rw [gBody, if_neg (by decide), if_neg (by decide), if_neg (by decide), if_pos rfl, thru_bind h4, thru_bind h5, thru_bind h6, thru_ret]
theorem body_5 {f o t i l s : Nat} {m : List Nat} {g : List UInt8} {s3 s4 s5 s6 s7 s8 : St} (h4 : thru (gRange 0 MT) s3 = tag i s4) (h5 : thru (gRange 0 MT) s4 = tag l s5) (h6 : thru (gRange 0 18446744073709551615) s5 = tag s s6) (h7 : thru gMem s6 = tag m s7) (h8 : thru (gText 16384) s7 = tag g s8) :
    thru (gBody 5 f o t) s3 = tag (⟨5, f, o, t, i, l, 0, s, false, [], m, g⟩ : Mg) s8 := by
  rw [gRange_most] at h6
  rw [gBody, if_neg (by decide), if_neg (by decide), if_neg (by decide), if_neg (by decide), thru_bind h4, thru_bind h5, thru_bind h6, thru_bind h7, thru_bind h8, thru_ret]
/-- The state behind the number of the entries. -/
def manyS (n : Nat) : St → St
  | .error c => .error c
  | .ok r => if n ≤ 4 then .ok r else .error 4
theorem body_3 {f o t i l c s n : Nat} {es : List Ent} {s3 s4 s5 s6 s7 s8 s9 : St} (h4 : thru (gRange 0 MT) s3 = tag i s4) (h5 : thru (gRange 0 MT) s4 = tag l s5) (h6 : thru (gRange 0 MT) s5 = tag c s6) (h7 : thru (gRange 0 18446744073709551615) s6 = tag s s7)
    (h8 : thru (gRange 0 18446744073709551615) s7 = tag n s8) (h9 : thru (gEnts n) (manyS n s8) = tag es s9) : thru (gBody 3 f o t) s3 = tag (⟨3, f, o, t, i, l, c, s, false, es, [], []⟩ : Mg) s9 := by
  rw [gRange_most] at h7 h8
  rw [gBody, if_neg (by decide), if_neg (by decide), if_pos rfl, thru_bind h4, thru_bind h5, thru_bind h6, thru_bind h7, thru_bind h8]
  cases s8 with
  | error d =>
    have e : s9 = .error d := by
      cases s9 with
      | error c => simp only [manyS, thru, tag, Except.error.injEq] at h9; rw [h9]
      | ok r => cases h9
    rw [e]
    rfl
  | ok r =>
    by_cases hn : n ≤ 4
    · rw [if_pos hn]
      simp only [manyS, if_pos hn] at h9
      rw [thru_bind h9, thru_ret]
    · rw [if_neg hn]
      simp only [manyS, if_neg hn] at h9
      have e : s9 = .error 4 := by
        cases s9 with
        | error c => simp only [thru, tag, Except.error.injEq] at h9; rw [h9]
        | ok r => cases h9
      rw [e]
      rfl

/-- The entries that are left, behind those that were read. -/
def moreE (k : Nat) (es : List Ent) : Rd (List Ent) := bindP (gEnts k) fun r => retP (es ++ r)
theorem moreE_start (n : Nat) (st : St) : thru (gEnts n) st = thru (moreE n []) st := by
  cases st with
  | error c => rfl
  | ok r =>
    show gEnts n r = moreE n [] r
    cases h : gEnts n r with
    | error c => exact (bindP_err h).symm
    | ok p => obtain ⟨x, q⟩ := p; rw [moreE, bindP_ok h]; rfl
theorem moreE_end (es : List Ent) (st : St) : thru (moreE 0 es) st = tag es st := by
  cases st with
  | error c => rfl
  | ok r => simp [moreE, thru, tag, gEnts, bindP, retP]
theorem moreE_err {k : Nat} {es : List Ent} {c : Nat} : thru (moreE k es) (.error c) = .error c := rfl
theorem moreE_text {k c : Nat} {es : List Ent} {r : List UInt8} (h : gText 128 r = .error c) : thru (moreE (k + 1) es) (.ok r) = .error c := by
  show moreE (k + 1) es r = _
  have e : gEnts (k + 1) r = .error c := bindP_err h
  exact bindP_err e
theorem moreE_ent {k : Nat} {es : List Ent} {r x q : List UInt8} (h : gText 128 r = .ok (x, q)) (hx : (getR x).2 ≠ 0) : thru (moreE (k + 1) es) (.ok r) = .error (getR x).2 := by
  show moreE (k + 1) es r = _
  have e : gEnts (k + 1) r = .error (getR x).2 := by rw [gEnts, bindP_ok h, if_neg hx]; rfl
  exact bindP_err e
theorem moreE_next {k : Nat} {es : List Ent} {r x q : List UInt8} (h : gText 128 r = .ok (x, q)) (hx : (getR x).2 = 0) : thru (moreE (k + 1) es) (.ok r) = thru (moreE k (es ++ [(getR x).1])) (.ok q) := by
  show moreE (k + 1) es r = moreE k (es ++ [(getR x).1]) q
  have e : gEnts (k + 1) r = bindP (gEnts k) (fun es => retP ((getR x).1 :: es)) q := by rw [gEnts, bindP_ok h, if_pos hx]
  cases h2 : gEnts k q with
  | error c =>
    have e2 : gEnts (k + 1) r = .error c := e.trans (bindP_err h2)
    rw [moreE, moreE, bindP_err e2, bindP_err h2]
  | ok p =>
    obtain ⟨y, z⟩ := p
    have e2 : gEnts (k + 1) r = .ok ((getR x).1 :: y, z) := by rw [e, bindP_ok h2]; rfl
    rw [moreE, moreE, bindP_ok e2, bindP_ok h2]
    simp [retP]
end Go.Proofs.Ytgbhfolbkgibfaa.MsgMath

/- Layer 18's reference: a taker of numbers, with the first fault kept. -/
namespace Go.Proofs.Ytgbhfolbkgibfaa
set_option maxRecDepth 20000
open Go.RowKit BinMath CmdMath
open MsgMath (Mg St codeS thru tag gRange gYes)

end Go.Proofs.Ytgbhfolbkgibfaa

/- A region that draws its order, told by facts, some of whose operations write memory in any place among the others: what is told of the world looks at what has come up. -/
namespace Go.Proofs.Ytgbhfolbkgibfaa.Reg
set_option maxRecDepth 20000
open Go.RowKit

section
variable {P : Program} {ops : Array Oper} {tab : List (List Nat)} {fin : List Tmp} {f : Tmp → Fact} {i : Nat} {o : Oper}

variable {p q : Nat} {H : Bool → Bool → World → Prop}

end

end Go.Proofs.Ytgbhfolbkgibfaa.Reg

/- Fields of one block are written by many operations of a region, in any order. -/
namespace Go.Proofs.Ytgbhfolbkgibfaa.Reg
set_option maxRecDepth 20000
open Go.RowKit

/-- What a cell is to be: of the stores that have come up, or as it was. -/
def Sts.cell (cur : Array Value) (sts : List (Nat × Nat × Value)) (L : Array Bool) (j : Nat) : Option Value :=
  match sts.find? (fun s => s.2.1 == j && L.getD s.1 false) with
  | some s => some s.2.2
  | none => cur[j]?

/-- In the midst of stores into block g: operation, cell and value of each. -/
structure Sts (w0 : World) (g : Nat) (t : TypeId) (cur : Array Value) (sts : List (Nat × Nat × Value)) (L : Array Bool) (W : World) : Prop where
  os : OnlyS (fun k => k = g) w0 W
  ex : ∃ cc : Array Value, Blk W g t cc ∧ cc.size = cur.size ∧ ∀ j, cc[j]? = Sts.cell cur sts L j

section
variable {P : Program} {ops : Array Oper} {tab : List (List Nat)} {fin : List Tmp} {f : Tmp → Fact} {i : Nat} {o : Oper} {w0 : World} {g : Nat} {t : TypeId} {cur : Array Value} {sts : List (Nat × Nat × Value)}

end

end Go.Proofs.Ytgbhfolbkgibfaa.Reg

/- Layer 18's reference: bare. -/
namespace Go.Proofs.Ytgbhfolbkgibfaa
set_option maxRecDepth 20000
open Go.RowKit BinMath CmdMath Reg
open MsgMath (Mg)

end Go.Proofs.Ytgbhfolbkgibfaa

/- Layer 18's reference: what Get has in memory while it reads. -/
namespace Go.Proofs.Ytgbhfolbkgibfaa
set_option maxRecDepth 20000
open Go.RowKit BinMath CmdMath Reg
open MsgMath (Mg St codeS thru tag gRange gYes getM gMsg)

theorem ret_msg {fn : Func} {p u : Tmp} (h : fn.results = #[.cell p 36, .tmp u]) (tmps : Array Value) (W : World) (g : Nat) (cs : Array Value) (c : Value) (hs : cs.size = 12) (hp : tmps.getD p undef = .pointer (some ⟨g, 0, none⟩)) (hc : tmps.getD u undef = c) (hb : Blk W g 36 cs) :
    (results fn tmps).run Try.prog W = .ok (.tuple #[.agg cs, c]) W := by
  have h6 : (Try.prog.info? 36).map (·.size) = some 12 := by kernel_rfl
  have hl := run_loadVar_row (P := Try.prog) W g 36 36 cs (0, 0) _ hb Try.underlying36 rfl (by rw [hs]; exact h6)
  have hp' : tmps[p]?.getD undef = .pointer (some ⟨g, 0, none⟩) := by simpa using hp
  have hc' : tmps[u]?.getD undef = c := by simpa using hc
  simp only [results, h]
  simp [Result.andThen, hp', hc', asAddr, hl]

end Go.Proofs.Ytgbhfolbkgibfaa

/- Layer 18's reference: Get. -/
namespace Go.Proofs.Ytgbhfolbkgibfaa
set_option maxRecDepth 20000
open Go.RowKit BinMath CmdMath Reg
open MsgMath (Mg St codeS thru tag gRange gYes getM gMsg)

end Go.Proofs.Ytgbhfolbkgibfaa

/- Layer 18's reference: entries that are read one behind the other. -/
namespace Go.Proofs.Ytgbhfolbkgibfaa
set_option maxRecDepth 20000
open Go.RowKit BinMath CmdMath Reg
open MsgMath (Mg St codeS thru tag gRange gYes getM gMsg)

theorem ERow.only {w w' : World} {B : Nat} {v : Value} {us : List EE} {S : Nat → Prop} (h : ERow w B v us) (ho : OnlyS S w w') (hS : ∀ k, B ≤ k → ¬ S k) : ERow w' B v us := h.to fun k hk hl => ho.block k hl (hS k hk)
theorem EMine.only {w w' : World} {B : Nat} {us : List EE} {S : Nat → Prop} (h : EMine w B us) (ho : OnlyS S w w') (hS : ∀ k, B ≤ k → ¬ S k) : EMine w' B us := h.to fun k hk hl => ho.block k hl (hS k hk)
theorem ERow.below {w w' : World} {B : Nat} {v : Value} {us : List EE} (h : ERow w B v us) (hb : Below w.heap.size w w') : ERow w' B v us := h.to fun k _ hl => hb.block k hl
theorem EMine.below {w w' : World} {B : Nat} {us : List EE} (h : EMine w B us) (hb : Below w.heap.size w w') : EMine w' B us := h.to fun k _ hl => hb.block k hl

theorem rows_apart {w : World} {B1 B2 e1 e2 s1 s2 n1 n2 : Nat} {v1 v2 : Value} {xs1 xs2 : List Value} (h1 : w.ownsRow B1 e1 s1 v1 n1 xs1) (h2 : w.ownsRow B2 e2 s2 v2 n2 xs2) (hne : e1 ≠ e2) (k : Nat) (hk : v1.ownBlock = some k) : v2.ownBlock ≠ some k := by
  intro e
  rcases h2.2 with ⟨rfl, _⟩ | ⟨g, cap, cur, rfl, hB, hg, _⟩
  · simp [Value.ownBlock] at e
  · have e2 : g = k := by simpa [Value.ownBlock] using e
    subst e2
    exact ownsRow_apart h1 (show Blk w g e2 cur from hg) hne hk

/-- An entry's slices stay where the list that holds it grows. -/
theorem EMine.grown {w w' : World} {B B' : Nat} {v : Value} {us vs : List EE} (h : EMine w B us) (hr : ERow w B' v vs) (hg : w.grownBy w' v.ownBlock) : EMine w' B us := fun u hu => by
  have h1 := h u hu
  exact ⟨h1.ok, row_to h1.d fun k e => hg.block k (World.ownsRow.lt h1.d k e).2 (fun e2 => rows_apart h1.d hr (by decide) k e e2.symm), h1.m.to fun k e => hg.block k (World.ownsRow.lt h1.m k e).2 (fun e2 => rows_apart h1.m hr (by decide) k e e2.symm), h1.dl, h1.ml⟩
theorem row_cap {w : World} {B : Nat} {v : Value} {l : List UInt8} (h : Row w B v l) : ∃ a c, v = .slice a l.length c ∧ l.length ≤ c := by
  rcases h.2 with ⟨rfl, h1⟩ | ⟨g, cap, cur, rfl, hB, hg, hn, -⟩
  · exact ⟨none, 0, by rw [h1], by omega⟩
  · exact ⟨_, _, rfl, hn⟩
end Go.Proofs.Ytgbhfolbkgibfaa

