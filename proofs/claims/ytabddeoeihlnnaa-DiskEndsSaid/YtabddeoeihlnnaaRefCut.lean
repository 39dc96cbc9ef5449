/- The reference's Cut, Remove, Rename. -/
import Derived.Test.YtabddeoeihlnnaaRefTryAny
namespace Go.Proofs.Ytabddeoeihlnnaa
open Go.RowKit Go.Maps DiskMath Reg

theorem IsRef.mono {w : World} {S : Nat → Prop} {r c c' : Nat} {s : St} (h : IsRef w S r c s) (hc : c ≤ c') (h2 : c' ≤ 2000) : IsRef w S r c' s := by
  obtain ⟨fv, sv, ov, F1, F2, G, hd, ht⟩ := h.ex
  exact ⟨⟨fv, sv, ov, F1, F2, G, { hd with ok := { hd.ok with few := Nat.le_trans hd.ok.few hc }, small := h2 }, ht⟩, h.lt⟩

theorem NextR.mono {w w' : World} {S : Nat → Prop} {r c c' : Nat} {s : St} (h : NextR w S r c s w') (hc : c ≤ c') (h2 : c' ≤ 2000) : NextR w S r c' s w' := ⟨h.disk.mono hc h2, h.only⟩

/-- What try leaves, told of the disk. -/
theorem TryEnd.next {w W w' : World} {S : Nat → Prop} {r c : Nat} {s : St} {fv sv ov : Value} {F1 F2 : Gf} {G : Go8} {v : Value} (h : TryEnd W r c s fv sv ov F1 F2 G v w') (hlt : ∀ k, S k → k < w.heap.size) (ht : ∀ k, rk r fv sv ov F1 F2 G k → S k)
    (hb : Below w.heap.size w W) (hv : ∀ k, v.ownBlock = some k → w.heap.size ≤ k) : NextR w S r c s w' := by
  obtain ⟨⟨fv', ov', F1', G', h1, h2⟩, h3⟩ := h
  refine NextR.of hlt ((OnlyS.of_below (S := S) hb fun k hk _ => hk).then h3 fun k _ hk => ht k hk) h1 fun k hk => ?_
  rcases h2 k hk with h | h | h
  · exact .inl (ht k h)
  · exact .inr (hv k h)
  · exact .inr (Nat.le_trans hb.size h)

theorem tryr_next {w W : World} {S : Nat → Prop} {r c : Nat} {s : St} {fv sv ov v : Value} {F1 F2 : Gf} {G : Go8} {op : AOp} (hd : Rk w r c s fv sv ov F1 F2 G) (ht : ∀ k, rk r fv sv ov F1 F2 G k → S k) (hlt : ∀ k, S k → k < w.heap.size) (hc : c + 1 ≤ 2000) (ho : FitO op)
    (hb : Below w.heap.size w W) (hv : Row W w.heap.size v op.b) : Calls Try.prog 52 #[dp r, .agg (rC op v)] W fun e w' => e = .returned (.int .i64 (s.said : Int)) ∧ NextR w S r (c + 1) (s.run op) w' := by
  refine (try_any (hd.same fun k hk => hb.block k (hd.lt hk)) hc ho (row_lower0 hv)).mono ?_
  rintro e w' ⟨rfl, h⟩
  exact ⟨rfl, h.next hlt ht hb fun k hk => (hv.lt hk).1⟩

set_option maxHeartbeats 1000000 in
set_option maxRecDepth 20000 in
theorem remover_any {w : World} {S : Nat → Prop} {r c : Nat} {s : St} {n : Nm} (h0 : IsRef w S r c s) (hc : c + 1 ≤ 2000) :
    Calls Try.prog 32 #[dp r, nm n] w fun e w' => e = .returned (.int .i64 ((s.remove n).1 : Int)) ∧ NextR w S r (c + 1) (s.remove n).2 w' := by
  obtain ⟨y, hy⟩ : ∃ y, y = s.remove n := ⟨_, rfl⟩
  rw [← hy]
  have HY := Lib.hid hy
  have hself : NextR w S r (c + 1) s w := (NextR.refl h0).mono (Nat.le_succ c) hc
  have HLt := Lib.hid h0.lt
  obtain ⟨fv, sv, ov, F1, F2, G, h, ht⟩ := h0.ex
  have c0 : w.cell? ⟨r, 0, none⟩ = some fv := by rw [Blk.cell h.blk]; rfl
  have c5 : w.cell? ⟨r, 5, none⟩ = some (.bool s.off) := by rw [Blk.cell h.blk]; rfl
  have HFind := Lib.hid (find_any (n := n) h.f1 (Nat.le_trans h.len (by decide)))
  have HD := Lib.hid h
  have HT := Lib.hid ht
  have HSelf := Lib.hid hself
  obtain ⟨N, hN⟩ : ∃ N, nm n = .string N := ⟨_, rfl⟩
  rw [hN] at HFind ⊢
  obtain ⟨va, vc, hv⟩ := h.f1.slice
  obtain ⟨L, hL⟩ : ∃ L, L = F1.length := ⟨_, rfl⟩
  rw [← hL] at hv
  rw [hv] at c0 HFind
  have HN := Lib.hid hN
  clear h ht h0 hself hN hv hL hy
  by_cases h1 : s.off = true
  · have ey : y = (6, s) := by rw [HY.out]; unfold St.remove; rw [if_pos h1]
    subst ey
    rw [h1] at c5
    clear h1 HY HFind
    go_enter Try.func32, Try.ntmps32
    go_wp2
    go_ret
    exact ⟨rfl, HSelf.out⟩
  have H1 := Lib.hid h1
  rw [show s.off = false by simpa using h1] at c5
  clear h1
  have hfo : Hid (∀ t, getA n s.now = some t → FitO ⟨2, n, [], 0, []⟩) := fun t h => ⟨(by show 2 ≤ 3; omega), (HD.out.ok.fitN _ (getA_mem h)).1, Nat.zero_le _, Nat.zero_le _, fun h => absurd h (by show 2 ≠ 0; omega), Nat.zero_le _, fun _ => rfl, fun _ => rfl⟩
  have HRun : Hid (∀ t, getA n s.now = some t → Calls Try.prog 52 #[dp r, .agg #[.int .i64 3, .string N, .string ⟨#[]⟩, .int .i64 0, .slice none 0 0]] w fun e w' => e = .returned (.int .i64 (s.said : Int)) ∧ NextR w S r (c + 1) (s.run ⟨2, n, [], 0, []⟩) w') := fun t ht => by
    have h := tryr_next (op := ⟨2, n, [], 0, []⟩) (v := .slice none 0 0) HD.out HT.out HLt.out hc (hfo.out t ht) (Below.refl _ w) (row_nil _ _)
    have e : rC ⟨2, n, [], 0, []⟩ (.slice none 0 0) = #[.int .i64 3, .string N, .string ⟨#[]⟩, .int .i64 0, .slice none 0 0] := by unfold rC; simp only [HN.out]; rfl
    rw [e] at h
    exact h
  go_enter Try.func32, Try.ntmps32
  go_wp2_with fail
  refine HFind.out.mono ?_
  rintro e w' ⟨⟨i, rfl, hat⟩, rfl⟩
  rcases hat with ⟨rfl, hg⟩ | ⟨j, x, rfl, hj, hg⟩
  · have ey : y = (8, s) := by rw [HY.out]; unfold St.remove; rw [if_neg H1.out, ← HD.out.p1, pr_get_none hg]
    subst ey
    clear hg HY HRun
    go_wp2
    go_ret
    exact ⟨rfl, HSelf.out⟩
  · have hgs : getA n s.now = some x.2 := by rw [← HD.out.p1]; exact pr_get_some hg
    have ey : y = (s.said, s.run ⟨2, n, [], 0, []⟩) := by rw [HY.out]; unfold St.remove; rw [if_neg H1.out, hgs]
    have hrun := HRun.out _ hgs
    subst ey
    have HRun2 := Lib.hid hrun
    have i0 : decide ((j : Int) < 0) = false := by simp
    clear hg hj hgs hrun HRun HY
    go_wp2_with fail
    refine HRun2.out.mono ?_
    rintro e w2 ⟨rfl, hnx⟩
    have HNx := Lib.hid hnx
    clear hnx
    go_wp2
    go_ret
    exact ⟨rfl, HNx.out⟩

set_option maxHeartbeats 1000000 in
set_option maxRecDepth 20000 in
theorem renamer_any {w : World} {S : Nat → Prop} {r c : Nat} {s : St} {n q : Nm} (h0 : IsRef w S r c s) (hc : c + 1 ≤ 2000) (hq : q.length ≤ 9223372036854775807) :
    Calls Try.prog 33 #[dp r, nm n, nm q] w fun e w' => e = .returned (.int .i64 ((s.rename n q).1 : Int)) ∧ NextR w S r (c + 1) (s.rename n q).2 w' := by
  obtain ⟨y, hy⟩ : ∃ y, y = s.rename n q := ⟨_, rfl⟩
  rw [← hy]
  have HY := Lib.hid hy
  have hself : NextR w S r (c + 1) s w := (NextR.refl h0).mono (Nat.le_succ c) hc
  have HLt := Lib.hid h0.lt
  obtain ⟨fv, sv, ov, F1, F2, G, h, ht⟩ := h0.ex
  have c0 : w.cell? ⟨r, 0, none⟩ = some fv := by rw [Blk.cell h.blk]; rfl
  have c5 : w.cell? ⟨r, 5, none⟩ = some (.bool s.off) := by rw [Blk.cell h.blk]; rfl
  have HFind := Lib.hid (find_any (n := n) h.f1 (Nat.le_trans h.len (by decide)))
  have HName := Lib.hid (named_any q w hq)
  have HD := Lib.hid h
  have HT := Lib.hid ht
  have HSelf := Lib.hid hself
  obtain ⟨N, hN⟩ : ∃ N, nm n = .string N := ⟨_, rfl⟩
  obtain ⟨M, hM⟩ : ∃ M, nm q = .string M := ⟨_, rfl⟩
  rw [hN] at HFind
  rw [hM] at HName
  rw [hN, hM]
  obtain ⟨va, vc, hv⟩ := h.f1.slice
  obtain ⟨L, hL⟩ : ∃ L, L = F1.length := ⟨_, rfl⟩
  rw [← hL] at hv
  rw [hv] at c0 HFind
  have HN := Lib.hid hN
  have HM := Lib.hid hM
  clear h ht h0 hself hN hM hv hL hy
  by_cases h1 : s.off = true
  · have ey : y = (6, s) := by rw [HY.out]; unfold St.rename; rw [if_pos h1]
    subst ey
    rw [h1] at c5
    clear h1 HY HFind HName
    go_enter Try.func33, Try.ntmps33
    go_wp2
    go_ret
    exact ⟨rfl, HSelf.out⟩
  have H1 := Lib.hid h1
  rw [show s.off = false by simpa using h1] at c5
  clear h1
  have HRun : Hid (∀ t, getA n s.now = some t → named q = true → Calls Try.prog 52 #[dp r, .agg #[.int .i64 4, .string N, .string M, .int .i64 0, .slice none 0 0]] w fun e w' => e = .returned (.int .i64 (s.said : Int)) ∧ NextR w S r (c + 1) (s.run ⟨3, n, q, 0, []⟩) w') := fun t ht hnq => by
    have hfo : FitO ⟨3, n, q, 0, []⟩ := ⟨(by show 3 ≤ 3; omega), (HD.out.ok.fitN _ (getA_mem ht)).1, named_len hnq, Nat.zero_le _, fun h => absurd h (by show 3 ≠ 0; omega), Nat.zero_le _, fun _ => rfl, fun _ => rfl⟩
    have h := tryr_next (op := ⟨3, n, q, 0, []⟩) (v := .slice none 0 0) HD.out HT.out HLt.out hc hfo (Below.refl _ w) (row_nil _ _)
    have e : rC ⟨3, n, q, 0, []⟩ (.slice none 0 0) = #[.int .i64 4, .string N, .string M, .int .i64 0, .slice none 0 0] := by unfold rC; simp only [HN.out, HM.out]; rfl
    rw [e] at h
    exact h
  go_enter Try.func33, Try.ntmps33
  go_wp2_with fail
  refine HFind.out.mono ?_
  rintro e w' ⟨⟨i, rfl, hat⟩, rfl⟩
  rcases hat with ⟨rfl, hg⟩ | ⟨j, x, rfl, hj, hg⟩
  · have ey : y = (8, s) := by rw [HY.out]; unfold St.rename; rw [if_neg H1.out, ← HD.out.p1, pr_get_none hg]
    subst ey
    clear hg HY HRun
    go_wp2
    go_ret
    exact ⟨rfl, HSelf.out⟩
  · have hgs : getA n s.now = some x.2 := by rw [← HD.out.p1]; exact pr_get_some hg
    have i0 : decide ((j : Int) < 0) = false := by simp
    by_cases h2 : named q = true
    · have ey : y = (s.said, s.run ⟨3, n, q, 0, []⟩) := by rw [HY.out]; unfold St.rename; rw [if_neg H1.out, hgs]; simp [h2]
      have hrun := HRun.out _ hgs h2
      subst ey
      have HRun2 := Lib.hid hrun
      rw [h2] at HName
      clear hg hj hgs hrun HRun HY h2
      go_wp2_with fail
      refine HName.out.mono ?_
      rintro e w' ⟨rfl, rfl⟩
      go_wp2_with fail
      refine HRun2.out.mono ?_
      rintro e w2 ⟨rfl, hnx⟩
      have HNx := Lib.hid hnx
      clear hnx
      go_wp2
      go_ret
      exact ⟨rfl, HNx.out⟩
    · have ey : y = (1, s) := by rw [HY.out]; unfold St.rename; rw [if_neg H1.out, hgs]; simp [h2]
      subst ey
      rw [show named q = false by simpa using h2] at HName
      clear hg hj hgs HRun HY h2
      go_wp2_with fail
      refine HName.out.mono ?_
      rintro e w' ⟨rfl, rfl⟩
      go_wp2
      go_ret
      exact ⟨rfl, HSelf.out⟩

set_option maxHeartbeats 1000000 in
set_option maxRecDepth 20000 in
theorem cutr_any {w : World} {S : Nat → Prop} {r c : Nat} {s : St} {n : Nm} {k : Int} (h0 : IsRef w S r c s) (hc : c + 1 ≤ 2000) (hk : -9223372036854775808 ≤ k ∧ k ≤ 9223372036854775807) :
    Calls Try.prog 31 #[dp r, nm n, .int .i64 k] w fun e w' => e = .returned (.int .i64 ((s.cut n k).1 : Int)) ∧ NextR w S r (c + 1) (s.cut n k).2 w' := by
  obtain ⟨y, hy⟩ : ∃ y, y = s.cut n k := ⟨_, rfl⟩
  rw [← hy]
  have HY := Lib.hid hy
  have hself : NextR w S r (c + 1) s w := (NextR.refl h0).mono (Nat.le_succ c) hc
  have HLt := Lib.hid h0.lt
  obtain ⟨fv, sv, ov, F1, F2, G, h, ht⟩ := h0.ex
  have c0 : w.cell? ⟨r, 0, none⟩ = some fv := by rw [Blk.cell h.blk]; rfl
  have c5 : w.cell? ⟨r, 5, none⟩ = some (.bool s.off) := by rw [Blk.cell h.blk]; rfl
  have HFind := Lib.hid (find_any (n := n) h.f1 (Nat.le_trans h.len (by decide)))
  have HD := Lib.hid h
  have HT := Lib.hid ht
  have HSelf := Lib.hid hself
  obtain ⟨N, hN⟩ : ∃ N, nm n = .string N := ⟨_, rfl⟩
  rw [hN] at HFind ⊢
  obtain ⟨va, vc, hv⟩ := h.f1.slice
  obtain ⟨L, hL⟩ : ∃ L, L = F1.length := ⟨_, rfl⟩
  rw [← hL] at hv
  rw [hv] at c0 HFind
  have HF : Hid (Fls w (.slice va L vc) F1) := by have h := h.f1; rw [hv] at h; exact h
  have HN := Lib.hid hN
  have HL := Lib.hid hL
  clear h ht h0 hself hN hv hL hy
  by_cases h1 : s.off = true
  · have ey : y = (6, s) := by rw [HY.out]; unfold St.cut; rw [if_pos h1]
    subst ey
    rw [h1] at c5
    clear h1 HY HFind
    go_enter Try.func31, Try.ntmps31
    go_wp2
    go_ret
    exact ⟨rfl, HSelf.out⟩
  have H1 := Lib.hid h1
  rw [show s.off = false by simpa using h1] at c5
  clear h1
  have HRun : Hid (∀ (t : List UInt8) (K : Nat), getA n s.now = some t → K ≤ t.length → Calls Try.prog 52 #[dp r, .agg #[.int .i64 2, .string N, .string ⟨#[]⟩, .int .i64 (K : Int), .slice none 0 0]] w fun e w' => e = .returned (.int .i64 (s.said : Int)) ∧ NextR w S r (c + 1) (s.run ⟨1, n, [], K, []⟩) w') := fun t K ht hK => by
    have hf := HD.out.ok.fitN _ (getA_mem ht)
    have hfo : FitO ⟨1, n, [], K, []⟩ := ⟨(by show 1 ≤ 3; omega), hf.1, Nat.zero_le _, Nat.le_trans hK hf.2, fun h => absurd h (by show 1 ≠ 0; omega), Nat.zero_le _, fun _ => rfl, fun h => absurd h (by show ¬ 1 < 1; omega)⟩
    have h := tryr_next (op := ⟨1, n, [], K, []⟩) (v := .slice none 0 0) HD.out HT.out HLt.out hc hfo (Below.refl _ w) (row_nil _ _)
    have e : rC ⟨1, n, [], K, []⟩ (.slice none 0 0) = #[.int .i64 2, .string N, .string ⟨#[]⟩, .int .i64 (K : Int), .slice none 0 0] := by unfold rC; simp only [HN.out]; rfl
    rw [e] at h
    exact h
  go_enter Try.func31, Try.ntmps31
  go_wp2_with fail
  refine HFind.out.mono ?_
  rintro e w' ⟨⟨i, rfl, hat⟩, rfl⟩
  rcases hat with ⟨rfl, hg⟩ | ⟨j, x, rfl, hj, hg⟩
  · have ey : y = (8, s) := by rw [HY.out]; unfold St.cut; rw [if_neg H1.out, ← HD.out.p1, pr_get_none hg]
    subst ey
    clear hg HY HRun
    go_wp2
    go_ret
    exact ⟨rfl, HSelf.out⟩
  · have hgs : getA n s.now = some x.2 := by rw [← HD.out.p1]; exact pr_get_some hg
    have i0 : decide ((j : Int) < 0) = false := by simp
    have hlt : j < L := by have := (List.getElem?_eq_some_iff.1 hj).1; have := HL.out; omega
    have hf := HF.out
    rw [HL.out] at hf
    obtain ⟨g, cap, e, hgl, -, c1⟩ := hf.cells j (n, x) hj
    simp at e
    obtain ⟨rfl, rfl⟩ := e
    have hxr : Row w 0 x.1 x.2 := hf.text (n, x) (List.mem_of_getElem? hj)
    obtain ⟨xa, xc, hx⟩ := slice_of_row hxr
    simp only at c1
    have ht8 : x.2.length ≤ 8388608 := (HD.out.ok.fitN _ (getA_mem hgs)).2
    obtain ⟨xn, hxn⟩ : ∃ xn, xn = x.2.length := ⟨_, rfl⟩
    rw [← hxn] at hx ht8
    rw [hx] at c1
    have hidx : ∀ W, (Instr.indexAt 62 (.slice (some ⟨g, 0, none⟩) L vc) (.int .i64 (j : Int))).run Try.prog W = .ok (.pointer (some ⟨g, j * 2, none⟩)) W := fun W => files_index W g L vc j hlt
    obtain ⟨J, hJ⟩ : ∃ J, J = j * 2 := ⟨_, rfl⟩
    rw [← hJ] at c1 hidx
    have HXn := Lib.hid hxn
    have HGs := Lib.hid hgs
    clear hg hj hf hxr hx hxn hgl hJ hgs
    by_cases h2 : k < 0
    · have ey : y = (9, s) := by rw [HY.out]; unfold St.cut; rw [if_neg H1.out, HGs.out]; simp [h2]
      have i1 : decide (k < 0) = true := by simpa using h2
      subst ey
      clear HY HRun
      go_wp2
      go_ret
      exact ⟨rfl, HSelf.out⟩
    have i1 : decide (k < 0) = false := by simp; omega
    by_cases h3 : (xn : Int) < k
    · have ey : y = (9, s) := by rw [HY.out]; unfold St.cut; rw [if_neg H1.out, HGs.out]; simp only; rw [if_pos (.inr (by rw [← HXn.out]; exact h3))]
      have i2 : decide ((xn : Int) < k) = true := by simpa using h3
      subst ey
      clear HY HRun
      go_wp2
      go_ret
      exact ⟨rfl, HSelf.out⟩
    have i2 : decide ((xn : Int) < k) = false := by simp; omega
    obtain ⟨K, rfl⟩ : ∃ K : Nat, k = (K : Int) := ⟨k.toNat, by omega⟩
    have ey : y = (s.said, s.run ⟨1, n, [], K, []⟩) := by rw [HY.out]; unfold St.cut; rw [if_neg H1.out, HGs.out]; simp only; rw [if_neg (by rw [← HXn.out]; omega)]; simp
    have hrun := HRun.out _ K HGs.out (by rw [← HXn.out]; omega)
    subst ey
    have HRun2 := Lib.hid hrun
    clear hrun HRun HY
    go_wp2_with fail
    refine HRun2.out.mono ?_
    rintro e w2 ⟨rfl, hnx⟩
    have HNx := Lib.hid hnx
    clear hnx
    go_wp2
    go_ret
    exact ⟨rfl, HNx.out⟩
end Go.Proofs.Ytabddeoeihlnnaa
