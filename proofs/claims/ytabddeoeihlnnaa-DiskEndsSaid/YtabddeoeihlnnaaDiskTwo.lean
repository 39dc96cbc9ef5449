/- The program's disk and the reference's, side by side; same. -/
import Derived.Test.YtabddeoeihlnnaaDiskFew
import Derived.Test.YtabddeoeihlnnaaDiskAwake
import Derived.BigQuiet
namespace Go.Proofs.Ytabddeoeihlnnaa
open Go.RowKit Go.Maps DiskMath Reg

/-- Two disks of a law's own, apart. -/
structure Two (w W : World) (T S : Nat → Prop) (d r c c' : Nat) (s s' : St) : Prop where
  disk : IsDisk W T d c s
  ref : IsRef W S r c' s'
  apart : ∀ k, T k → ¬ S k
  newT : ∀ k, T k → w.heap.size ≤ k
  newS : ∀ k, S k → w.heap.size ≤ k
  bel : Below w.heap.size w W

theorem only_below {w W W' : World} {T : Nat → Prop} (hb : Below w.heap.size w W) (hT : ∀ k, T k → w.heap.size ≤ k) (ho : OnlyS T W W') : Below w.heap.size w W' :=
  ⟨ho.os.trans hb.os, ho.tape.trans hb.tape, ho.output.trans hb.output, Nat.le_trans hb.size ho.size, fun k hk => (ho.block k (Nat.lt_of_lt_of_le hk hb.size) fun e => by have := hT k e; omega).trans (hb.block k hk)⟩

theorem Two.below {w W W' : World} {T S : Nat → Prop} {d r c c' : Nat} {s s' : St} (h : Two w W T S d r c c' s s') (hb : Below W.heap.size W W') : Two w W' T S d r c c' s s' :=
  ⟨h.disk.below hb, h.ref.below hb, h.apart, h.newT, h.newS, h.bel.trans (hb.mono h.bel.size)⟩

/-- A block that is neither's is written. -/
theorem Two.other {w W W' : World} {T S X : Nat → Prop} {d r c c' : Nat} {s s' : St} (h : Two w W T S d r c c' s s') (ho : OnlyS X W W') (hX : ∀ k, X k → ¬ T k ∧ ¬ S k ∧ w.heap.size ≤ k) : Two w W' T S d r c c' s s' :=
  ⟨h.disk.same (fun k hk => ho.block k (h.disk.lt k hk) fun e => (hX k e).1 hk) ho.size, h.ref.same (fun k hk => ho.block k (h.ref.lt k hk) fun e => (hX k e).2.1 hk) ho.size, h.apart, h.newT, h.newS, only_below h.bel (fun k hk => (hX k hk).2.2) ho⟩

/-- The program's disk went on. -/
theorem Two.prog {w W W' : World} {T S : Nat → Prop} {d r c c1 c' : Nat} {s s1 s' : St} (h : Two w W T S d r c c' s s') (hn : Next W T d c1 s1 W') : Two w W' (fun k => T k ∨ (W.heap.size ≤ k ∧ k < W'.heap.size)) S d r c1 c' s1 s' :=
  ⟨hn.disk, h.ref.same (fun k hk => hn.only.block k (h.ref.lt k hk) fun e => h.apart k e hk) hn.only.size, fun k hk hs => by
    rcases hk with hk | hk
    · exact h.apart k hk hs
    · have := h.ref.lt k hs
      omega, fun k hk => by
    rcases hk with hk | hk
    · exact h.newT k hk
    · exact Nat.le_trans h.bel.size hk.1, h.newS, only_below h.bel h.newT hn.only⟩

/-- The reference's disk went on. -/
theorem Two.refr {w W W' : World} {T S : Nat → Prop} {d r c c1 c' : Nat} {s s1 s' : St} (h : Two w W T S d r c c' s s') (hn : NextR W S r c1 s1 W') : Two w W' T (fun k => S k ∨ (W.heap.size ≤ k ∧ k < W'.heap.size)) d r c c1 s s1 :=
  ⟨h.disk.same (fun k hk => hn.only.block k (h.disk.lt k hk) fun e => h.apart k hk e) hn.only.size, hn.disk, fun k hk hs => by
    rcases hs with hs | hs
    · exact h.apart k hk hs
    · have := h.disk.lt k hk
      omega, h.newT, fun k hk => by
    rcases hk with hk | hk
    · exact h.newS k hk
    · exact Nat.le_trans h.bel.size hk.1, only_below h.bel h.newS hn.only⟩

theorem nms_slice {w : World} {B : Nat} {v : Value} {l : List Nm} (h : Nms w B v l) : ∃ a c, v = .slice a l.length c := by
  rcases h.2 with ⟨rfl, h0⟩ | ⟨g, cap, cur, rfl, _⟩
  · exact ⟨none, 0, by rw [h0]⟩
  · exact ⟨_, _, rfl⟩

theorem Nms.below {w w' : World} {B : Nat} {v : Value} {l : List Nm} (h : Nms w B v l) (hb : Below w.heap.size w w') : Nms w' B v l := ownRow_same h fun k hk => hb.block k (World.ownsRow.lt h k hk).2

theorem Nms.at {w : World} {B : Nat} {a : Option Addr} {n c : Nat} {l : List Nm} (h : Nms w B (.slice a n c) l) {i : Nat} {x : Nm} (hi : l[i]? = some x) : ∃ g, a = some ⟨g, 0, none⟩ ∧ w.cell? ⟨g, i, none⟩ = some (nm x) := by
  have hlt := (List.getElem?_eq_some_iff.1 hi).1
  rcases h.2 with ⟨_, h0⟩ | ⟨g, cap, cur, hv, _, hg, hn, hm, hs, ht⟩
  · omega
  · simp at hv
    obtain ⟨rfl, hn', -⟩ := hv
    subst hn'
    refine ⟨g, rfl, ?_⟩
    rw [World.ownsRow.cellAt h _ (by simpa using hlt)]
    simp [hi]

theorem strs_index (W : World) (g n cap i : Nat) (hi : i < n) : (Instr.indexAt 38 (.slice (some ⟨g, 0, none⟩) n cap) (.int .i64 (i : Int))).run Try.prog W = .ok (.pointer (some ⟨g, i, none⟩)) W := by
  have he : Try.prog.elem 38 = 9 := by kernel_rfl
  have hs : (Go.sizeOf 9).run Try.prog W = .ok 1 W := by kernel_rfl
  have ht : Try.prog.underlying 38 = some (.slice (Try.prog.elem 38)) := by rw [he]; exact Try.underlying38
  rw [run_indexAt_slice (h := ht), if_pos (by omega), he, hs]
  simp [Result.andThen, Addr.add]
  exact fun h => h.symm

theorem Dk.drewN {w : World} {d c : Nat} {s : St} {m1 m2 : Nat} {F1 F2 : Gf} {ws : Value} {G : Go8} (h : Dk w d c s m1 m2 F1 F2 ws G) (N : Nat) : Dk (w.drewN N) d c s m1 m2 F1 F2 ws G := h.same fun _ _ => rfl
theorem Rk.drewN {w : World} {r c : Nat} {s : St} {fv sv ov : Value} {F1 F2 : Gf} {G : Go8} (h : Rk w r c s fv sv ov F1 F2 G) (N : Nat) : Rk (w.drewN N) r c s fv sv ov F1 F2 G := h.same fun _ _ => rfl

theorem read_short {c : Nat} {s : St} (h : Ok c s) (n : Nm) : (s.read n).2.length ≤ 8388608 := by
  unfold St.read
  split
  · simp
  · split
    · simp
    · rename_i t hg
      exact (h.fitN _ (getA_mem hg)).2

set_option maxHeartbeats 1000000 in
set_option maxRecDepth 100000 in
theorem same_any {w : World} {T S : Nat → Prop} {d r c c' : Nat} {s : St} (h1 : IsDisk w T d c s) (h2 : IsRef w S r c' s) : Calls Try.prog 36 #[dp d, dp r] w fun e w' => e = .returned (.bool true) ∧ Below w.heap.size w w' := by
  have HD := Lib.hid h1
  obtain ⟨fv, sv, ov, F1, F2, G, hr, -⟩ := h2.ex
  have HR := Lib.hid hr
  have HList := Lib.hid (list_any h1)
  obtain ⟨m, hm⟩ : ∃ m, m = s.now.length := ⟨_, rfl⟩
  obtain ⟨fa, fc, hfv⟩ : ∃ fa fc, fv = .slice fa m fc := by
    obtain ⟨a, c, e⟩ := hr.f1.slice
    exact ⟨a, c, by rw [e, hm, ← hr.p1, pr_length]⟩
  obtain ⟨q, hq⟩ : ∃ q, q = s.ops.length := ⟨_, rfl⟩
  obtain ⟨oa, oc, hov⟩ : ∃ oa oc, ov = .slice oa q oc := by
    have hg : G.length = q := by rw [hq, ← hr.pw]; simp [names8]
    rcases hr.ops.2 with ⟨hv, h0⟩ | ⟨g, cap, cur, hv, _⟩
    · exact ⟨none, 0, by rw [hv, ← hg, h0]⟩
    · exact ⟨_, _, by rw [hv, hg]⟩
  subst hfv
  subst hov
  have HM := Lib.hid hm
  have HQ := Lib.hid hq
  have hm2 : m ≤ 2000 := by
    have h1 := hr.len
    rw [hm, ← hr.p1, pr_length]
    exact h1
  clear h1 h2 hr hm hq
  go_enter Try.func36, Try.ntmps36
  go_wp2_with fail
  refine HList.out.mono ?_
  rintro e w1 ⟨v1, rfl, hn1, hb1⟩
  obtain ⟨la, lc, hv1⟩ := nms_slice hn1
  subst hv1
  have hml : (s.now.map (·.1)).length = m := by rw [List.length_map]; exact HM.out.symm
  rw [hml] at hn1 ⊢
  have HN1 := Lib.hid hn1
  have HB1 := Lib.hid hb1
  have hd1 := HD.out.below hb1
  obtain ⟨m1, m2, E1, E2, ws, E, hk1, -⟩ := hd1.ex
  have hr1 : Rk w1 r c' s (.slice fa m fc) sv (.slice oa q oc) F1 F2 G := HR.out.same fun k hk => hb1.block k (HR.out.lt hk)
  have HD1 := Lib.hid hd1
  have HR1 := Lib.hid hr1
  obtain ⟨U, hU⟩ : ∃ U, U = tot s.now := ⟨_, rfl⟩
  obtain ⟨off, hoff⟩ : ∃ off, off = s.off := ⟨_, rfl⟩
  have CU : Hid (∀ N, Calls Try.prog 28 #[dp d] (w1.drewN N) fun e w' => e = .returned (.int .i64 (U : Int)) ∧ ∃ m, w' = w1.drewN m) := fun N => by
    rw [hU]
    exact (used_any (hk1.drewN N)).mono fun e w' h => ⟨h.1, N, h.2.symm⟩
  have CV : Hid (∀ N, Calls Try.prog 50 #[.slice fa m fc] (w1.drewN N) fun e w' => e = .returned (.int .i64 (U : Int)) ∧ ∃ m, w' = w1.drewN m) := fun N => by
    have h := usedr_any (hr1.drewN N).f1 (Nat.le_trans hr1.len (by decide)) (by
      rw [hr1.p1]
      have h1 := tot_le (k := 8388608) (fun p hp => (hr1.ok.fitN p hp).2)
      have h3 : s.now.length * 8388608 ≤ 100000 * 8388608 := Nat.mul_le_mul_right _ (by have := HM.out; omega)
      omega)
    rw [hr1.p1, ← hU] at h
    exact h.mono fun e w' h => ⟨h.1, N, h.2.symm⟩
  have CW : Hid (∀ N, Calls Try.prog 15 #[dp d] (w1.drewN N) fun e w' => e = .returned (.int .i64 (q : Int)) ∧ ∃ m, w' = w1.drewN m) := fun N => by
    rw [HQ.out]
    exact (waiting_any (hk1.drewN N)).mono fun e w' h => ⟨h.1, N, h.2.symm⟩
  have CD : Hid (∀ N, Calls Try.prog 23 #[dp d] (w1.drewN N) fun e w' => e = .returned (.bool off) ∧ ∃ m, w' = w1.drewN m) := fun N => by
    rw [hoff]
    exact (down_any (hk1.drewN N)).mono fun e w' h => ⟨h.1, N, h.2.symm⟩
  have c0 : ∀ N, (w1.drewN N).cell? ⟨r, 0, none⟩ = some (.slice fa m fc) := fun N => by show w1.cell? _ = _; rw [Blk.cell hr1.blk]; rfl
  have c2 : ∀ N, (w1.drewN N).cell? ⟨r, 2, none⟩ = some (.slice oa q oc) := fun N => by show w1.cell? _ = _; rw [Blk.cell hr1.blk]; rfl
  have c5 : ∀ N, (w1.drewN N).cell? ⟨r, 5, none⟩ = some (.bool off) := fun N => by show w1.cell? _ = _; rw [Blk.cell hr1.blk, hoff]; rfl
  clear hn1 hb1 hd1 hr1 hk1 hU hoff hml HList
  go_wp2_with fail
  go_quiet (first | with_reducible exact CU.out _ | with_reducible exact CV.out _ | with_reducible exact CW.out _ | with_reducible exact CD.out _)
  clear c2 c5 CU CV CW CD
  go_wp2
  go_loopw [6] (fun s6 wr => ∃ i : Nat, i ≤ m ∧ s6 = .int .i64 i ∧ Hid (Below w1.heap.size w1 wr)) (fun s6 _ => m - (intOf s6).toNat)
  case atStart => exact ⟨0, Nat.zero_le _, rfl, Lib.hid (below_draws (Below.refl _ _) _)⟩
  case round =>
    obtain ⟨wo, rfl⟩ : ∃ wo : World, wo = wr := ⟨_, rfl⟩
    obtain ⟨i, hi, rfl, HB⟩ := hrel
    by_cases hlt : i < m
    · have i0 : (0 : Int) ≤ (i : Int) := Int.natCast_nonneg _
      have i1 : (i : Int) < (m : Int) := by omega
      obtain ⟨p, hp⟩ : ∃ p, s.now[i]? = some p := ⟨s.now[i]'(by have := HM.out; omega), List.getElem?_eq_getElem _⟩
      obtain ⟨n0, t0⟩ := p
      obtain ⟨x, hx⟩ : ∃ x, F1[i]? = some (n0, x) := by
        have h : (pr F1)[i]? = some (n0, t0) := by rw [HR1.out.p1]; exact hp
        unfold pr at h
        rw [List.getElem?_map] at h
        obtain ⟨z, hz, e⟩ := Option.map_eq_some_iff.1 h
        obtain ⟨z1, z2⟩ := z
        simp at e
        obtain ⟨rfl, -⟩ := e
        exact ⟨_, hz⟩
      obtain ⟨g0, hla, hc0⟩ := HN1.out.at (i := i) (x := n0) (by rw [List.getElem?_map, hp]; rfl)
      subst hla
      obtain ⟨g, cap, e, hgl, hf0, -⟩ := HR1.out.f1.cells i (n0, x) hx
      simp at e
      obtain ⟨rfl, -, -⟩ := e
      have hidx : ∀ W, (Instr.indexAt 62 (.slice (some ⟨g, 0, none⟩) m fc) (.int .i64 (i : Int))).run Try.prog W = .ok (.pointer (some ⟨g, i * 2, none⟩)) W := fun W => files_index W g m fc i hlt
      have hids : ∀ W, (Instr.indexAt 38 (.slice (some ⟨g0, 0, none⟩) m lc) (.int .i64 (i : Int))).run Try.prog W = .ok (.pointer (some ⟨g0, i, none⟩)) W := fun W => strs_index W g0 m lc i hlt
      obtain ⟨J, hJ⟩ : ∃ J, J = i * 2 := ⟨_, rfl⟩
      rw [← hJ] at hf0 hidx
      have hn16 : n0.length ≤ 16 := (HR1.out.ok.fitN _ (List.mem_of_getElem? hp)).1
      have hread := read_any (HD1.out.below HB.out) (n := n0) (by omega)
      have hreadr : Hid (∀ W, Below w1.heap.size w1 W → Calls Try.prog 14 #[dp r, nm n0] W fun e w' => ∃ v, e = .returned (.tuple #[v, .int .i64 ((s.read n0).1 : Int)]) ∧ Row W 0 v (s.read n0).2 ∧ W = w') := Lib.hid fun W hW => readr_any (HR1.out.same fun k hk => hW.block k (HR1.out.lt hk))
      obtain ⟨N, hN⟩ : ∃ N, nm n0 = .string N := ⟨_, rfl⟩
      obtain ⟨y, hy⟩ : ∃ y, y = s.read n0 := ⟨_, rfl⟩
      have hy8 : y.2.length ≤ 8388608 := by rw [hy]; exact read_short HR1.out.ok n0
      simp only [hN] at hc0 hf0
      rw [hN, ← hy] at hread hreadr
      have HC : Hid (∀ W, Below w1.heap.size w1 W → W.cell? ⟨g0, i, none⟩ = some (.string N) ∧ W.cell? ⟨g, J, none⟩ = some (.string N) ∧ W.cell? ⟨r, 0, none⟩ = some (.slice (some ⟨g, 0, none⟩) m fc)) := Lib.hid fun W hW => ⟨by rw [hW.cell (World.block_lt_of_cell? w1 _ hc0)]; exact hc0, by rw [hW.cell (World.block_lt_of_cell? w1 _ hf0)]; exact hf0, by rw [hW.cell (World.block_lt_of_cell? w1 _ (c0 0))]; exact c0 0⟩
      have HRead := Lib.hid hread
      have hcw := (HC.out wo HB.out).1
      clear hp hx hc0 hf0 hgl hJ hread hN hy c0 hn16
      go_wp2_with fail
      refine HRead.out.mono ?_
      rintro e w2 ⟨v, rfl, hr2, hb2⟩
      obtain ⟨va, vc, rfl⟩ := slice_of_row hr2
      obtain ⟨k, hk⟩ : ∃ k, k = y.2.length := ⟨_, rfl⟩
      rw [← hk] at hr2 hy8 ⊢
      have hb12 := HB.out.trans (hb2.mono HB.out.size)
      have HB2 := Lib.hid hb12
      have HR2 := Lib.hid hr2
      have HK := Lib.hid hk
      have HRR := Lib.hid (hreadr.out w2 hb12)
      have hcw := (HC.out w2 hb12).1
      have hbs : w1.heap.size ≤ wo.heap.size := HB.out.size
      have HBs := Lib.hid hbs
      clear hr2 hb2 hk hb12 HRead hreadr hbs
      go_wp2_with fail
      refine HRR.out.mono ?_
      rintro e w3 ⟨v', rfl, hr3, rfl⟩
      obtain ⟨va', vc', rfl⟩ := slice_of_row hr3
      rw [← HK.out] at hr3 ⊢
      have d0 : ∀ q, (w2.drewN q).cell? ⟨g0, i, none⟩ = some (.string N) := fun q => (HC.out w2 HB2.out).1
      have d1 : ∀ q, (w2.drewN q).cell? ⟨g, J, none⟩ = some (.string N) := fun q => (HC.out w2 HB2.out).2.1
      have d2 : ∀ q, (w2.drewN q).cell? ⟨r, 0, none⟩ = some (.slice (some ⟨g, 0, none⟩) m fc) := fun q => (HC.out w2 HB2.out).2.2
      obtain ⟨Y, hY⟩ : ∃ Y : ByteArray, Y = ⟨y.2.toArray⟩ := ⟨_, rfl⟩
      have e1 : ∀ q, (convert 30 9 (.slice va k vc)).run Try.prog (w2.drewN q) = .ok (.string Y) (w2.drewN q) := fun q => by rw [hY]; exact conv_bys (w := w2.drewN q) (l := y.2) (show Bys (w2.drewN q) _ _ from HR2.out.bys)
      have e2 : ∀ q, (convert 30 9 (.slice va' k vc')).run Try.prog (w2.drewN q) = .ok (.string Y) (w2.drewN q) := fun q => by rw [hY]; exact conv_bys (w := w2.drewN q) (l := y.2) (show Bys (w2.drewN q) _ _ from hr3.bys)
      clear hr3 hY HRR hcw
      go_wp2_with fail
      go_quiet (fail)
      clear d0 d1 d2 e1 e2 hidx hids
      go_wp2
      go_loopw [11] (fun s11 wr => ∃ (j : Nat) (l : List UInt8), j ≤ k ∧ l.length = k ∧ s11 = .int .i64 j ∧ Hid (Row wr wo.heap.size (.slice va k vc) l) ∧ Hid (Below w1.heap.size w1 wr)) (fun s11 _ => k - (intOf s11).toNat)
      case atStart => exact ⟨0, y.2, Nat.zero_le _, HK.out.symm, rfl, Lib.hid (HR2.out.below (below_draws (Below.refl _ _) _)), Lib.hid (below_draws HB2.out _)⟩
      case round =>
        obtain ⟨j, l, hj, hll, rfl, HRw, HBw⟩ := hrel
        by_cases hjk : j < k
        · have j0 : (0 : Int) ≤ (j : Int) := Int.natCast_nonneg _
          have j1 : (j : Int) < (k : Int) := by omega
          have hrw := HRw.out
          obtain ⟨gx, hgx⟩ : ∃ gx, va = some ⟨gx, 0, none⟩ := by
            rcases hrw.2 with ⟨hv, h0⟩ | ⟨gx, cap, cur, hv, _⟩
            · omega
            · simp at hv
              exact ⟨gx, hv.1⟩
          subst hgx
          obtain ⟨⟨z, hz⟩, hfz⟩ := row_cell hrw j (by omega)
          have hgB := (hrw.lt (k := gx) rfl).1
          have HGB := Lib.hid hgB
          have HLL := Lib.hid hll
          clear hrw hll hgB
          go_wp2
          go_roundw
          case rel =>
            obtain ⟨b, hb⟩ := u8_wrap (z + 1)
            refine ⟨j + 1, l.set j b, by omega, by rw [List.length_set]; exact HLL.out, by go_num, Lib.hid ?_, Lib.hid ?_⟩
            · have h := row_set HRw.out j b
              rw [← hb] at h
              first | exact h | (rw [IntKind.wrap_u8] at h; exact h)
            · exact HBw.out.setCell (Nat.le_trans HBs.out HGB.out) _
          case measure => simp [intOf]; omega
        · clear hll
          go_wp2
          go_roundw
          case rel => exact ⟨i + 1, by omega, by go_num, HBw⟩
          case measure => simp [intOf]; omega
    · go_wp2
      go_ret
      exact ⟨rfl, HB1.out.trans (HB.out.mono HB1.out.size)⟩
end Go.Proofs.Ytabddeoeihlnnaa
