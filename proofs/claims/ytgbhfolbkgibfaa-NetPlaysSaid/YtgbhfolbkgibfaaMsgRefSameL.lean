/- Layer 18's reference: Same. -/
import Derived.Test.YtgbhfolbkgibfaaLAS
namespace Go.Proofs.Ytgbhfolbkgibfaa
set_option maxRecDepth 20000
open Go.RowKit BinMath CmdMath
open MsgMath (Mg)

set_option maxHeartbeats 16000000 in
theorem refMsgSame_any (M Q : Mg) (ve vm vg ve' vm' vg' : Value) (us vs : List EE) (w : World) (hM : MHas w M ve vm vg us) (hQ : MHas w Q ve' vm' vg' vs) :
    Calls Try.prog 22 #[.agg (mgC M ve vm vg), .agg (mgC Q ve' vm' vg')] w fun r w' => r = .returned (.bool (decide (M = Q))) ∧ Below w.heap.size w w' := by
  obtain ⟨-, hel, hal, hen, hnm, hbg, hul, hml, hgl⟩ := hM
  obtain ⟨a, ca, rfl⟩ := hel.form
  obtain ⟨b, cb, rfl⟩ := hnm.shape
  obtain ⟨d, cd, rfl⟩ := hbg.shape
  obtain ⟨k, f, o, t, i, l, c, s, y, e, m, g⟩ := M
  obtain ⟨na, hna⟩ : ∃ n, n = us.length := ⟨_, rfl⟩
  obtain ⟨nb, hnb⟩ : ∃ n, n = m.length := ⟨_, rfl⟩
  obtain ⟨nd, hnd⟩ : ∃ n, n = g.length := ⟨_, rfl⟩
  simp only [mgC] at hen hnm hbg hml hgl ⊢
  rw [← hna] at hel
  rw [← hnb] at hnm
  rw [← hnd] at hbg
  rw [← hna, ← hnb, ← hnd]
  clear hna hnb hnd
  obtain ⟨-, hel', hal', hen', hnm', hbg', hul', hml', hgl'⟩ := hQ
  obtain ⟨a', ca', rfl⟩ := hel'.form
  obtain ⟨b', cb', rfl⟩ := hnm'.shape
  obtain ⟨d', cd', rfl⟩ := hbg'.shape
  obtain ⟨k', f', o', t', i', l', c', s', y', e', m', g'⟩ := Q
  obtain ⟨na', hna'⟩ : ∃ n, n = vs.length := ⟨_, rfl⟩
  obtain ⟨nb', hnb'⟩ : ∃ n, n = m'.length := ⟨_, rfl⟩
  obtain ⟨nd', hnd'⟩ : ∃ n, n = g'.length := ⟨_, rfl⟩
  dsimp only at hen' hnm' hbg' hml' hgl' ⊢
  rw [← hna'] at hel'
  rw [← hnb'] at hnm'
  rw [← hnd'] at hbg'
  rw [← hna', ← hnb', ← hnd']
  clear hna' hnb' hnd'
  obtain ⟨w1, hw1⟩ : ∃ w1, w1 = (w.alloc (.cells #[.int .i64 k, .int .u64 (f : Int), .int .u64 (o : Int), .int .u64 (t : Int), .int .u64 (i : Int), .int .u64 (l : Int), .int .u64 (c : Int), .int .u64 (s : Int), .bool y, .slice a na ca, .slice b nb cb, .slice d nd cd] 36)).alloc (.cells #[.int .i64 k', .int .u64 (f' : Int), .int .u64 (o' : Int), .int .u64 (t' : Int), .int .u64 (i' : Int), .int .u64 (l' : Int), .int .u64 (c' : Int), .int .u64 (s' : Int), .bool y', .slice a' na' ca', .slice b' nb' cb', .slice d' nd' cd'] 36) := ⟨_, rfl⟩
  have hb1 : Below w.heap.size w w1 := by rw [hw1]; exact boxes w _ _ _
  have HB := Lib.hid hb1
  have hs1 : w1.heap.size = w.heap.size + 2 := by rw [hw1]; simp
  have hls := refList_any _ _ us vs w1 (hel.below (Nat.le_refl _) hb1) (hel'.below (Nat.le_refl _) hb1) (hal.below (Nat.le_refl _) hb1) (hal'.below (Nat.le_refl _) hb1) hul
  have hn := fun (W : World) (hW : Below w1.heap.size w1 W) => refNums_any _ _ m m' W ((hnm.below (Nat.le_refl _) hb1).below (Nat.le_refl _) hW) ((hnm'.below (Nat.le_refl _) hb1).below (Nat.le_refl _) hW) hml
  have c1 := fun (W : World) (hW : Below w1.heap.size w1 W) => conv_bys ((hbg.below (Nat.le_refl _) hb1).below (Nat.le_refl _) hW)
  have c2 := fun (W : World) (hW : Below w1.heap.size w1 W) => conv_bys ((hbg'.below (Nat.le_refl _) hb1).below (Nat.le_refl _) hW)
  have K1 : Blk w1 w.heap.size 36 #[.int .i64 k, .int .u64 (f : Int), .int .u64 (o : Int), .int .u64 (t : Int), .int .u64 (i : Int), .int .u64 (l : Int), .int .u64 (c : Int), .int .u64 (s : Int), .bool y, .slice a na ca, .slice b nb cb, .slice d nd cd] := by rw [hw1]; exact Blk.keep (Blk.new w _ _) ((Below.refl _ _).alloc (Nat.le_refl _) _)
  have K2 : Blk w1 (w.heap.size + 1) 36 #[.int .i64 k', .int .u64 (f' : Int), .int .u64 (o' : Int), .int .u64 (t' : Int), .int .u64 (i' : Int), .int .u64 (l' : Int), .int .u64 (c' : Int), .int .u64 (s' : Int), .bool y', .slice a' na' ca', .slice b' nb' cb', .slice d' nd' cd'] := by rw [hw1]; have h := Blk.new (w.alloc (.cells #[.int .i64 k, .int .u64 (f : Int), .int .u64 (o : Int), .int .u64 (t : Int), .int .u64 (i : Int), .int .u64 (l : Int), .int .u64 (c : Int), .int .u64 (s : Int), .bool y, .slice a na ca, .slice b nb cb, .slice d nd cd] 36)) 36 #[.int .i64 k', .int .u64 (f' : Int), .int .u64 (o' : Int), .int .u64 (t' : Int), .int .u64 (i' : Int), .int .u64 (l' : Int), .int .u64 (c' : Int), .int .u64 (s' : Int), .bool y', .slice a' na' ca', .slice b' nb' cb', .slice d' nd' cd']; rwa [World.size_alloc] at h
  have K10 : Hid (w1.cell? ⟨w.heap.size, 10, none⟩ = some (.slice b nb cb)) := Lib.hid (by rw [K1.cell]; rfl)
  have K11 : Hid (w1.cell? ⟨w.heap.size, 11, none⟩ = some (.slice d nd cd)) := Lib.hid (by rw [K1.cell]; rfl)
  have L10 : Hid (w1.cell? ⟨w.heap.size + 1, 10, none⟩ = some (.slice b' nb' cb')) := Lib.hid (by rw [K2.cell]; rfl)
  have L11 : Hid (w1.cell? ⟨w.heap.size + 1, 11, none⟩ = some (.slice d' nd' cd')) := Lib.hid (by rw [K2.cell]; rfl)
  obtain ⟨X, hX⟩ : ∃ X : ByteArray, X = ⟨g.toArray⟩ := ⟨_, rfl⟩
  obtain ⟨Y, hY⟩ : ∃ Y : ByteArray, Y = ⟨g'.toArray⟩ := ⟨_, rfl⟩
  rw [← hX] at c1
  rw [← hY] at c2
  have hXY : g ≠ g' → (X.toList == Y.toList) = false := fun h => by rw [hX, hY, ByteArray.toList_mk, ByteArray.toList_mk]; exact beq_false_of_ne h
  have hXX : g = g' → (X.toList == Y.toList) = true := fun h => by rw [hX, hY, ByteArray.toList_mk, ByteArray.toList_mk]; exact beq_iff_eq.2 h
  have HXY := Lib.hid hXY
  have HXX := Lib.hid hXX
  have HS1 := Lib.hid hs1
  clear hX hY hXY hXX hel hel' hal hal' hnm hnm' hbg hbg' hul hul' hml hml' hgl hgl' hb1 K1 K2 hs1
  subst hw1
  by_cases hk : k = k'
  · subst hk
    by_cases hf : f = f'
    · subst hf
      by_cases ho : o = o'
      · subst ho
        by_cases ht : t = t'
        · subst ht
          by_cases hi : i = i'
          · subst hi
            by_cases hl : l = l'
            · subst hl
              by_cases hc : c = c'
              · subst hc
                by_cases hs : s = s'
                · subst hs
                  by_cases hy : y = y'
                  · subst hy
                    have HLs := hls
                    by_cases he : e = e'
                    · subst he
                      rw [decide_eq_true (show us.map EE.e = vs.map EE.e by rw [hen, hen'])] at HLs
                      have HL := Lib.hid HLs
                      clear HLs hls hen hen'
                      by_cases hm : m = m'
                      · subst hm
                        by_cases hg : g = g'
                        · have HG := Lib.hid hg
                          have HM := Lib.hid (rfl : m = m)
                          clear hg
                          go_enter Try.func22, Try.ntmps22
                          go_wp2_with fail
                          refine HL.out.mono ?_
                          rintro r w2 ⟨rfl, hb2⟩
                          have ka10 : w2.cell? ⟨w.heap.size, 10, none⟩ = some (.slice b nb cb) := by rw [hb2.cell (p := ⟨w.heap.size, 10, none⟩) (by simp; omega)]; exact K10.out
                          have kb10 : w2.cell? ⟨w.heap.size + 1, 10, none⟩ = some (.slice b' nb' cb') := by rw [hb2.cell (p := ⟨w.heap.size + 1, 10, none⟩) (by simp)]; exact L10.out
                          have ka11 : w2.cell? ⟨w.heap.size, 11, none⟩ = some (.slice d nd cd) := by rw [hb2.cell (p := ⟨w.heap.size, 11, none⟩) (by simp; omega)]; exact K11.out
                          have kb11 : w2.cell? ⟨w.heap.size + 1, 11, none⟩ = some (.slice d' nd' cd') := by rw [hb2.cell (p := ⟨w.heap.size + 1, 11, none⟩) (by simp)]; exact L11.out
                          have HB2 := Lib.hid (HB.out.trans (hb2.mono HB.out.size))
                          have HN := Lib.hid (hn w2 hb2)
                          have C1 := Lib.hid (fun nq => c1 _ (below_drewN hb2 nq))
                          have C2 := Lib.hid (fun nq => c2 _ (below_drewN hb2 nq))
                          clear hb2 hn c1 c2
                          rw [decide_eq_true HM.out] at HN
                          go_wp2_with fail
                          refine HN.out.mono ?_
                          rintro r w3 ⟨rfl, nq, rfl⟩
                          have c1 := C1.out nq
                          have c2 := C2.out nq
                          have q := HXX.out HG.out
                          go_wp2
                          go_ret
                          exact ⟨congrArg (fun b => Ending.returned (Value.bool b)) (decide_eq_true (by rw [HG.out])).symm, below_drewN HB2.out nq⟩
                        · rw [decide_eq_false (show ¬ ((⟨k, f, o, t, i, l, c, s, y, e, m, g⟩ : Mg) = ⟨k, f, o, t, i, l, c, s, y, e, m, g'⟩) from fun h => hg (by injection h))]
                          have HG := Lib.hid hg
                          have HM := Lib.hid (rfl : m = m)
                          clear hg
                          go_enter Try.func22, Try.ntmps22
                          go_wp2_with fail
                          refine HL.out.mono ?_
                          rintro r w2 ⟨rfl, hb2⟩
                          have ka10 : w2.cell? ⟨w.heap.size, 10, none⟩ = some (.slice b nb cb) := by rw [hb2.cell (p := ⟨w.heap.size, 10, none⟩) (by simp; omega)]; exact K10.out
                          have kb10 : w2.cell? ⟨w.heap.size + 1, 10, none⟩ = some (.slice b' nb' cb') := by rw [hb2.cell (p := ⟨w.heap.size + 1, 10, none⟩) (by simp)]; exact L10.out
                          have ka11 : w2.cell? ⟨w.heap.size, 11, none⟩ = some (.slice d nd cd) := by rw [hb2.cell (p := ⟨w.heap.size, 11, none⟩) (by simp; omega)]; exact K11.out
                          have kb11 : w2.cell? ⟨w.heap.size + 1, 11, none⟩ = some (.slice d' nd' cd') := by rw [hb2.cell (p := ⟨w.heap.size + 1, 11, none⟩) (by simp)]; exact L11.out
                          have HB2 := Lib.hid (HB.out.trans (hb2.mono HB.out.size))
                          have HN := Lib.hid (hn w2 hb2)
                          have C1 := Lib.hid (fun nq => c1 _ (below_drewN hb2 nq))
                          have C2 := Lib.hid (fun nq => c2 _ (below_drewN hb2 nq))
                          clear hb2 hn c1 c2
                          rw [decide_eq_true HM.out] at HN
                          go_wp2_with fail
                          refine HN.out.mono ?_
                          rintro r w3 ⟨rfl, nq, rfl⟩
                          have c1 := C1.out nq
                          have c2 := C2.out nq
                          have q := HXY.out HG.out
                          go_wp2
                          go_ret
                          exact ⟨rfl, below_drewN HB2.out nq⟩
                      · rw [decide_eq_false (show ¬ ((⟨k, f, o, t, i, l, c, s, y, e, m, g⟩ : Mg) = ⟨k, f, o, t, i, l, c, s, y, e, m', g'⟩) from fun h => hm (by injection h))]
                        have HM := Lib.hid hm
                        clear hm
                        go_enter Try.func22, Try.ntmps22
                        go_wp2_with fail
                        refine HL.out.mono ?_
                        rintro r w2 ⟨rfl, hb2⟩
                        have ka10 : w2.cell? ⟨w.heap.size, 10, none⟩ = some (.slice b nb cb) := by rw [hb2.cell (p := ⟨w.heap.size, 10, none⟩) (by simp; omega)]; exact K10.out
                        have kb10 : w2.cell? ⟨w.heap.size + 1, 10, none⟩ = some (.slice b' nb' cb') := by rw [hb2.cell (p := ⟨w.heap.size + 1, 10, none⟩) (by simp)]; exact L10.out
                        have ka11 : w2.cell? ⟨w.heap.size, 11, none⟩ = some (.slice d nd cd) := by rw [hb2.cell (p := ⟨w.heap.size, 11, none⟩) (by simp; omega)]; exact K11.out
                        have kb11 : w2.cell? ⟨w.heap.size + 1, 11, none⟩ = some (.slice d' nd' cd') := by rw [hb2.cell (p := ⟨w.heap.size + 1, 11, none⟩) (by simp)]; exact L11.out
                        have HB2 := Lib.hid (HB.out.trans (hb2.mono HB.out.size))
                        have HN := Lib.hid (hn w2 hb2)
                        clear hb2 hn c1 c2
                        rw [decide_eq_false HM.out] at HN
                        go_wp2_with fail
                        refine HN.out.mono ?_
                        rintro r w3 ⟨rfl, nq, rfl⟩
                        go_wp2
                        go_ret
                        exact ⟨rfl, below_drewN HB2.out nq⟩
                    · rw [decide_eq_false (show ¬ ((⟨k, f, o, t, i, l, c, s, y, e, m, g⟩ : Mg) = ⟨k, f, o, t, i, l, c, s, y, e', m', g'⟩) from fun h => he (by injection h))]
                      rw [decide_eq_false (show ¬ us.map EE.e = vs.map EE.e by rw [hen, hen']; exact he)] at HLs
                      have HL := Lib.hid HLs
                      clear HLs hls hen hen' he hn c1 c2
                      go_enter Try.func22, Try.ntmps22
                      go_wp2_with fail
                      refine HL.out.mono ?_
                      rintro r w2 ⟨rfl, hb2⟩
                      have HB2 := Lib.hid (HB.out.trans (hb2.mono HB.out.size))
                      clear hb2
                      go_wp2
                      go_ret
                      exact ⟨rfl, HB2.out⟩
                  · have q : (y == y') = false := by simpa using hy
                    rw [decide_eq_false (show ¬ ((⟨k, f, o, t, i, l, c, s, y, e, m, g⟩ : Mg) = ⟨k, f, o, t, i, l, c, s, y', e', m', g'⟩) from fun h => hy (by injection h))]
                    clear hy
                    go_enter Try.func22, Try.ntmps22
                    go_wp2
                    go_ret
                    exact ⟨rfl, HB.out⟩
                · have q : ((s : Int) == (s' : Int)) = false := beq_false_of_ne (by omega)
                  rw [decide_eq_false (show ¬ ((⟨k, f, o, t, i, l, c, s, y, e, m, g⟩ : Mg) = ⟨k, f, o, t, i, l, c, s', y', e', m', g'⟩) from fun h => hs (by injection h))]
                  clear hs
                  go_enter Try.func22, Try.ntmps22
                  go_wp2
                  go_ret
                  exact ⟨rfl, HB.out⟩
              · have q : ((c : Int) == (c' : Int)) = false := beq_false_of_ne (by omega)
                rw [decide_eq_false (show ¬ ((⟨k, f, o, t, i, l, c, s, y, e, m, g⟩ : Mg) = ⟨k, f, o, t, i, l, c', s', y', e', m', g'⟩) from fun h => hc (by injection h))]
                clear hc
                go_enter Try.func22, Try.ntmps22
                go_wp2
                go_ret
                exact ⟨rfl, HB.out⟩
            · have q : ((l : Int) == (l' : Int)) = false := beq_false_of_ne (by omega)
              rw [decide_eq_false (show ¬ ((⟨k, f, o, t, i, l, c, s, y, e, m, g⟩ : Mg) = ⟨k, f, o, t, i, l', c', s', y', e', m', g'⟩) from fun h => hl (by injection h))]
              clear hl
              go_enter Try.func22, Try.ntmps22
              go_wp2
              go_ret
              exact ⟨rfl, HB.out⟩
          · have q : ((i : Int) == (i' : Int)) = false := beq_false_of_ne (by omega)
            rw [decide_eq_false (show ¬ ((⟨k, f, o, t, i, l, c, s, y, e, m, g⟩ : Mg) = ⟨k, f, o, t, i', l', c', s', y', e', m', g'⟩) from fun h => hi (by injection h))]
            clear hi
            go_enter Try.func22, Try.ntmps22
            go_wp2
            go_ret
            exact ⟨rfl, HB.out⟩
        · have q : ((t : Int) == (t' : Int)) = false := beq_false_of_ne (by omega)
          rw [decide_eq_false (show ¬ ((⟨k, f, o, t, i, l, c, s, y, e, m, g⟩ : Mg) = ⟨k, f, o, t', i', l', c', s', y', e', m', g'⟩) from fun h => ht (by injection h))]
          clear ht
          go_enter Try.func22, Try.ntmps22
          go_wp2
          go_ret
          exact ⟨rfl, HB.out⟩
      · have q : ((o : Int) == (o' : Int)) = false := beq_false_of_ne (by omega)
        rw [decide_eq_false (show ¬ ((⟨k, f, o, t, i, l, c, s, y, e, m, g⟩ : Mg) = ⟨k, f, o', t', i', l', c', s', y', e', m', g'⟩) from fun h => ho (by injection h))]
        clear ho
        go_enter Try.func22, Try.ntmps22
        go_wp2
        go_ret
        exact ⟨rfl, HB.out⟩
    · have q : ((f : Int) == (f' : Int)) = false := beq_false_of_ne (by omega)
      rw [decide_eq_false (show ¬ ((⟨k, f, o, t, i, l, c, s, y, e, m, g⟩ : Mg) = ⟨k, f', o', t', i', l', c', s', y', e', m', g'⟩) from fun h => hf (by injection h))]
      clear hf
      go_enter Try.func22, Try.ntmps22
      go_wp2
      go_ret
      exact ⟨rfl, HB.out⟩
  · have q : (k == k') = false := beq_false_of_ne (by omega)
    rw [decide_eq_false (show ¬ ((⟨k, f, o, t, i, l, c, s, y, e, m, g⟩ : Mg) = ⟨k', f', o', t', i', l', c', s', y', e', m', g'⟩) from fun h => hk (by injection h))]
    clear hk
    go_enter Try.func22, Try.ntmps22
    go_wp2
    go_ret
    exact ⟨rfl, HB.out⟩
end Go.Proofs.Ytgbhfolbkgibfaa

