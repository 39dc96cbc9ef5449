/- Joined: WalFiles, WalDrop, WalMark, WalNumber, WalOf, WalSweep, WalSweep2, WalRead, WalLog. -/
import Derived.Test.YthaggdkfaglgaaaGreatDoorJW1
import Derived.Test.YthaggdkfaglgaaaGreatDoorJD4
import Derived.Test.YthaggdkfaglgaaaGreatDoorJF2
/- The log's files: sync, a record laid down, records dropped, the first number told. -/
namespace Go.Proofs.YthaggdkfaglgaaaGreatDoor
set_option maxRecDepth 20000
open Go.RowKit Go.Maps DiskMath WalMath FrameMath Reg

theorem IsDisk.wide {w : World} {T T' : Nat → Prop} {d c : Nat} {s : St} (h : IsDisk w T d c s) (hT : ∀ k, T k → T' k) (hlt : ∀ k, T' k → k < w.heap.size) : IsDisk w T' d c s := by
  obtain ⟨m1, m2, F1, F2, ws, G, hd, ht⟩ := h.ex
  exact ⟨⟨m1, m2, F1, F2, ws, G, hd, fun k hk => hT k (ht k hk)⟩, hlt⟩

theorem Next.pre {w w1 w2 : World} {T : Nat → Prop} {d c : Nat} {s : St} (hb : Below w.heap.size w w1) (hlt : ∀ k, T k → k < w.heap.size) (h : Next w1 T d c s w2) : Next w T d c s w2 :=
  ⟨h.disk.wide (fun k hk => by
    have := hb.size
    rcases hk with hk | hk
    · exact .inl hk
    · exact .inr ⟨by omega, hk.2⟩) fun k hk => by
    have := hb.size
    have := h.only.size
    rcases hk with hk | hk
    · have := hlt k hk; omega
    · exact hk.2, (OnlyS.of_below (S := T) hb fun k hk _ => hk).trans h.only⟩

theorem Next.post {w w1 w2 : World} {T : Nat → Prop} {d c : Nat} {s : St} (h : Next w T d c s w1) (hb : Below w1.heap.size w1 w2) : Next w T d c s w2 :=
  ⟨(h.disk.below hb).wide (fun k hk => by
    have := hb.size
    rcases hk with hk | hk
    · exact .inl hk
    · exact .inr ⟨hk.1, by omega⟩) fun k hk => by
    have := hb.size
    rcases hk with hk | hk
    · have := h.disk.lt k (.inl hk); omega
    · exact hk.2, h.only.trans (OnlyS.of_below (S := T) hb fun k hk _ => hk)⟩

/-- The blocks of what was there, and new ones. -/
abbrev more (w : World) (T : Nat → Prop) (w1 : World) : Nat → Prop := fun k => T k ∨ (w.heap.size ≤ k ∧ k < w1.heap.size)

theorem Next.trans {w w1 w2 : World} {T : Nat → Prop} {d c1 c2 : Nat} {s1 s2 : St} (h1 : Next w T d c1 s1 w1) (h2 : Next w1 (more w T w1) d c2 s2 w2) : Next w T d c2 s2 w2 :=
  ⟨h2.disk.wide (fun k hk => by
    have := h1.only.size
    have := h2.only.size
    rcases hk with (hk | hk) | hk
    · exact .inl hk
    · exact .inr ⟨hk.1, by omega⟩
    · exact .inr ⟨by omega, hk.2⟩) fun k hk => by
    have := h2.only.size
    rcases hk with hk | hk
    · have := h1.disk.lt k (.inl hk); omega
    · exact hk.2, h1.only.then h2.only fun k hk hs => by
    rcases hs with hs | hs
    · exact hs
    · omega⟩

theorem load_dp (W : World) (p : Addr) (v : Value) (h : W.cell? p = some v) : (Instr.loadAt 36 (.pointer (some p))).run Tryz.prog W = .ok v W := by
  have hagg : (isAgg 36).run Tryz.prog W = .ok false W := by kernel_rfl
  simp [Instr.loadAt, Instr.sureAddr, loadVar, Sem.run_bind, hagg, h]

theorem load_files {W : World} {B : Nat} {v1 v2 : Value} (h : Blk W B 106 #[v1, v2]) : (Instr.loadAt 106 (.pointer (some ⟨B, 0, none⟩))).run Tryz.prog W = .ok (.agg #[v1, v2]) W :=
  h.loadsAt 106 _ 0 0 [v1, v2] Tryz.underlying106 rfl (by kernel_rfl) (fun j u hj => by
    rw [Nat.zero_add]
    simpa using hj) rfl

theorem rec_front (q : Nm) (n : Nat) : frontN q ++ dec n = recN q n := rfl
theorem mark_front (q : Nm) (n : Nat) : markF q ++ dec n = markN q n := rfl
theorem front_len {q : Nm} (hq : q.length ≤ 4) : (frontN q).length ≤ 1000 ∧ (markF q).length ≤ 1000 ∧ q.length ≤ 1000 := by
  simp only [frontN, markF, List.length_append, List.length_cons, List.length_nil]
  omega

theorem numL_nine (n : Nat) (h : n < 18446744073709551616) : (BinMath.numL n).length ≤ 9 := by
  have h1 := BinMath.pNum_numL n [] h
  exact pNum_used9 h1

theorem rec_len2 {q : Nm} (hq : q.length ≤ 4) {n : Nat} (hn : n < 100) : (recN q n).length ≤ 1000 ∧ (markN q n).length ≤ 1000 := by
  have := dec_len hn
  simp only [recN, markN, List.length_append, List.length_cons, List.length_nil]
  omega

/-- sync. -/
theorem wsync_any {w : World} {T : Nat → Prop} {d c : Nat} {s : St} (q : Nm) (h : IsDisk w T d c s) :
    Calls Tryz.prog 54 #[fv (some ⟨d, 0, none⟩) q] w fun e w' => Must s.sync.1 e ∧ Next w T d c s.sync.2 w' := by
  have H := Lib.hid h
  clear h
  unfold fv nm
  obtain ⟨N, hN⟩ : ∃ N : ByteArray, N = ⟨q.toArray⟩ := ⟨_, rfl⟩
  obtain ⟨x, hx⟩ : ∃ x, x = s.sync.1 := ⟨_, rfl⟩
  rw [← hN, ← hx]
  have HX := Lib.hid hx
  clear hN hx
  go_enter Tryz.func54, Tryz.ntmps54
  go_wp2_with fail
  have hb : Below w.heap.size w (w.alloc (.cells #[.pointer (some ⟨d, 0, none⟩), .string N] 106)) := (Below.refl _ _).alloc (Nat.le_refl _) _
  have HB := Lib.hid hb
  refine (sync_any (H.out.below hb)).mono ?_
  rintro e w2 ⟨rfl, h2⟩
  rw [← HX.out]
  have hn := Next.pre HB.out H.out.lt h2
  have HN := Lib.hid hn
  clear hb h2 hn
  go_wp2_with fail
  by_cases hx0 : x = 0
  · refine (must_any x _).mono ?_
    rintro e w3 ⟨hm, rfl⟩
    obtain rfl := hm.1 hx0
    have HM := Lib.hid hm
    clear hx0 hm
    go_wp2
    go_end0
    exact ⟨HM.out, HN.out⟩
  · refine (must_any x _).mono ?_
    rintro e w3 ⟨hm, rfl⟩
    obtain rfl := hm.2 hx0
    exact ⟨rfl, hm, HN.out⟩

set_option maxHeartbeats 1000000 in
/-- A record is laid down. -/
theorem wlay_any {w : World} {T : Nat → Prop} {d c : Nat} {s : St} {q : Nm} (hq : q.length ≤ 4) (h : IsDisk w T d c s) (hc : c + 1 ≤ 2000) {n : Nat} (hn : n < 100) {ra : Option Addr} {rl rc : Nat} {r : List UInt8} (hr : Bys w (.slice ra rl rc) r) (hrl : r.length = rl) (hr2 : rl ≤ 16384) (ht : Tab w) :
    Calls Tryz.prog 60 #[fv (some ⟨d, 0, none⟩) q, .int .u64 n, .slice ra rl rc] w fun e w' => Must (layA q s n r).1 e ∧ Next w T d (c + 1) (layA q s n r).2 w' := by
  have H := Lib.hid h
  have HR := Lib.hid hr
  have HL := Lib.hid hrl
  have HT := Lib.hid ht
  obtain ⟨x, hx⟩ : ∃ x, x = (layA q s n r).1 := ⟨_, rfl⟩
  obtain ⟨s', hs'⟩ : ∃ s', s' = (layA q s n r).2 := ⟨_, rfl⟩
  rw [← hx, ← hs']
  have HX := Lib.hid hx
  have HS := Lib.hid hs'
  clear h hr hrl ht hx hs'
  go_enter Tryz.func60, Tryz.ntmps60
  go_wp2_with fail
  have hb0 : Below w.heap.size w ((w.alloc (.cells #[.pointer (some ⟨d, 0, none⟩), nm q] 106)).alloc (.cells #[.slice ra rl rc] 27)) := ((Below.refl _ w).alloc (Nat.le_refl _) _).alloc (by simp) _
  have hbk : Blk ((w.alloc (.cells #[.pointer (some ⟨d, 0, none⟩), nm q] 106)).alloc (.cells #[.slice ra rl rc] 27)) w.heap.size 106 #[.pointer (some ⟨d, 0, none⟩), nm q] := (Blk.new w _ _).alloc _
  have hb1 := Blk.newAt (w.alloc (.cells #[.pointer (some ⟨d, 0, none⟩), nm q] 106)) 27 #[.slice ra rl rc] _ (w.heap.size + 1) (by simp) rfl
  obtain ⟨w0, hw0⟩ : ∃ w0, w0 = (w.alloc (.cells #[.pointer (some ⟨d, 0, none⟩), nm q] 106)).alloc (.cells #[.slice ra rl rc] 27) := ⟨_, rfl⟩
  obtain ⟨B, hB⟩ : ∃ B, B = w.heap.size := ⟨_, rfl⟩
  rw [← hw0] at hb0 hbk hb1 ⊢
  rw [← hB] at hbk hb1 ⊢
  have htx : Txs w0 (.slice (some ⟨B + 1, 0, none⟩) 1 1) [r] := ⟨_, 1, rfl, Nat.le_refl _, fun i t hi => by
    have hi0 : i = 0 := by have := (List.getElem?_eq_some_iff.1 hi).1; simp at this; exact this
    subst hi0
    simp at hi
    subst hi
    refine ⟨_, ra, rc, rfl, ?_, ?_⟩
    · rw [addr_add, Nat.zero_add, hb1.cell, HL.out]; rfl
    · rw [HL.out]; exact HR.out.below (Nat.le_refl _) hb0⟩
  have hlay := lay_any (.slice (some ⟨B + 1, 0, none⟩) 1 1) [r] w0 htx (by simp) (HT.out.below (Nat.le_refl _) hb0)
  have HBk := Lib.hid hbk
  have HB0 := Lib.hid hb0
  have HBs := Lib.hid hB
  clear hw0 hB hb1 htx hb0 hbk
  refine hlay.mono ?_
  rintro e w1 ⟨hbl, hcase⟩
  obtain ⟨v', rfl, hrow⟩ : ∃ v', e = .returned (.tuple #[v', .int .i64 0]) ∧ Row w1 w0.heap.size v' (layF [r]) := by
    rcases hcase with ⟨_, h⟩ | ⟨⟨t, ht, hlt⟩, _⟩
    · exact h
    · exfalso
      rw [List.mem_singleton.1 ht, HL.out] at hlt
      omega
  have hfr : layF [r] = frameF r := by simp [layF]
  rw [hfr] at hrow
  obtain ⟨ta, tc, rfl⟩ := slice_of_row hrow
  obtain ⟨tl, htl⟩ : ∃ tl, tl = (frameF r).length := ⟨_, rfl⟩
  rw [← htl] at hrow ⊢
  have htl2 : tl ≤ 4194304 := by
    rw [htl, frameF_length]
    have := numL_nine r.length (by have := HL.out; omega)
    have := HL.out
    omega
  have HTl := Lib.hid htl
  have HTl2 := Lib.hid htl2
  have HRow := Lib.hid hrow
  have HBl := Lib.hid hbl
  clear htl htl2 hrow hbl hlay hfr
  go_wp2_with fail
  refine (must_any 0 _).mono ?_
  rintro e w1' ⟨hm, rfl⟩
  obtain rfl := hm.1 rfl
  clear hm
  go_wp2_with fail
  have hG : ∀ W W' : World, Below w1'.heap.size w1' W → Below W.heap.size W W' → Below w1'.heap.size w1' W' := fun W W' h h' => h.trans (h'.mono h.size)
  have HBk1 := Lib.hid (HBk.out.keep HBl.out)
  refine region_tails_by 7 [(16, .is (.pointer (some ⟨B, 0, none⟩))), (17, .is (dp d)), (18, .is (fv (some ⟨d, 0, none⟩) q)), (19, .is (nm (frontN q))), (20, .is (.int .u64 (n : Int))), (21, .is (nm (recN q n))), (22, .is (.slice ta tl tc))] [17, 21, 22] (fun W => Below w1'.heap.size w1' W) (by kernel_rfl) (by kernel_rfl) (by kernel_rfl) (by kernel_rfl) (by kernel_rfl) (by decide) (by kernel_rfl) (by kernel_rfl) ((Below.refl _ _).drew) ?_ ?_
  · refine ⟨?c0, ?c1, ?c2, ?c3, ?c4, ?c5, ?c6, trivial⟩
    case c0 => exact ask_field (guard_none rfl) _ (.tmp 3) 0 (.pointer (some ⟨B, 0, none⟩)) (.pointer (some ⟨B, 0, none⟩)) rfl rfl (by intro k hk; cases hk; rfl) (fun W => by kernel_rfl)
    case c1 => exact ask_load (guard_none rfl) _ (.tmp 16) (.pointer (some ⟨B, 0, none⟩)) (dp d) rfl rfl (by intro k hk; cases hk; rfl) (fun W hW => load_dp W _ _ (by rw [hW.cell (p := ⟨B, 0, none⟩) HBk1.out.lt, HBk1.out.cell]; rfl))
    case c2 => exact ask_load (guard_none rfl) _ (.tmp 3) (.pointer (some ⟨B, 0, none⟩)) (fv (some ⟨d, 0, none⟩) q) rfl rfl (by intro k hk; cases hk; rfl) (fun W hW => load_files (HBk1.out.keep hW))
    case c3 => exact ask_call hG (guard_none rfl) _ _ _ #[fv (some ⟨d, 0, none⟩) q] (.is (nm (frontN q))) rfl (by kernel_rfl) rfl rfl (by intro k hk; cases hk; rfl) (fun W hW => (front_any _ q (front_len hq).2.2 W).mono fun e w' h => ⟨_, h.1, rfl, h.2⟩)
    case c4 => exact ask_copy (guard_none rfl) (.tmp 1) (.inl rfl) (by intro k hk; cases hk; rfl)
    case c5 => exact ask_call hG (guard_none rfl) _ _ _ #[nm (frontN q), .int .u64 (n : Int)] (.is (nm (recN q n))) rfl (by kernel_rfl) rfl rfl (by intro k hk; cases hk; rfl) (fun W hW => (called_any _ (front_len hq).1 n hn W).mono fun e w' h => by obtain ⟨h1, rfl⟩ := h; exact ⟨_, h1, rfl, Below.refl _ _⟩)
    case c6 => exact ask_copy (guard_none rfl) (.tmp 6) (.inl rfl) (by intro k hk; cases hk; rfl)
  · intro a' W hW hd' hs' hf'
    have t17 : a'.tmps.getD 17 undef = dp d := hf' 17 rfl
    have t21 : a'.tmps.getD 21 undef = nm (recN q n) := hf' 21 rfl
    have t22 : a'.tmps.getD 22 undef = .slice ta tl tc := hf' 22 rfl
    obtain ⟨us, hus, ha'⟩ := act_open 25 a' hs' hd'
    rw [← hus] at t17 t21 t22
    have el : ((List.range 25).map us).toArray = #[us 0, us 1, us 2, us 3, us 4, us 5, us 6, us 7, us 8, us 9, us 10, us 11, us 12, us 13, us 14, us 15, us 16, us 17, us 18, us 19, us 20, us 21, us 22, us 23, us 24] := rfl
    rw [el] at ha'
    subst ha'
    rw [t17, t21, t22]
    have HW := Lib.hid hW
    clear hus t17 t21 t22 el hf' hs' hd' hW
    simp only [List.drop_succ_cons, List.drop_zero]
    have HI := Lib.hid (H.out.below ((HB0.out.trans (HBl.out.mono HB0.out.size)).trans (HW.out.mono (Nat.le_trans HB0.out.size HBl.out.size))))
    have HRw := Lib.hid (HRow.out.below HW.out)
    go_wp2_with fail
    refine (write_any (n := recN q n) (a := 0) HI.out hc (by have := (rec_len2 hq hn).1; omega) (by omega) HRw.out.bys HTl.out.symm HTl2.out).mono ?_
    rintro e w2 ⟨rfl, h2⟩
    have e1 : (s.write (recN q n) 0 (frameF r)).1 = x := HX.out.symm
    have e2 : (s.write (recN q n) 0 (frameF r)).2 = s' := HS.out.symm
    rw [e2] at h2
    rw [e1]
    have HN := Lib.hid (Next.pre ((HB0.out.trans (HBl.out.mono HB0.out.size)).trans (HW.out.mono (Nat.le_trans HB0.out.size HBl.out.size))) H.out.lt h2)
    clear h2 e1 e2
    go_wp2_with fail
    by_cases hx0 : x = 0
    · refine (must_any x _).mono ?_
      rintro e w3 ⟨hm, rfl⟩
      obtain rfl := hm.1 hx0
      have HM := Lib.hid hm
      clear hx0 hm
      go_wp2
      go_end0
      exact ⟨HM.out, HN.out⟩
    · refine (must_any x _).mono ?_
      rintro e w3 ⟨hm, rfl⟩
      obtain rfl := hm.2 hx0
      exact ⟨rfl, hm, HN.out⟩

end Go.Proofs.YthaggdkfaglgaaaGreatDoor

/- The log's files: records dropped, the first number told. -/
namespace Go.Proofs.YthaggdkfaglgaaaGreatDoor
set_option maxRecDepth 20000
open Go.RowKit Go.Maps DiskMath WalMath FrameMath Reg

/-- The word that the walk has for what a slot holds. -/
theorem Next.blk {w1 w2 : World} {T : Nat → Prop} {d c : Nat} {s : St} {B : Nat} {t : TypeId} {cs : Array Value} (h : Next w1 T d c s w2) (hb : Blk w1 B t cs) (hT : ¬ T B) : Blk w2 B t cs := by
  unfold Blk
  rw [h.only.block B hb.lt hT]
  exact hb

theorem Next.tab {w1 w2 : World} {T : Nat → Prop} {d c : Nat} {s : St} (h : Next w1 T d c s w2) (ht : Tab w1) (hT : ¬ T 0) : Tab w2 := fun j hj => by
  have h1 := ht j hj
  have h2 := World.block_lt_of_cell? w1 _ h1
  rw [← h1]
  unfold World.cell?
  rw [h.only.block 0 h2 hT]

theorem u64_small (n : Nat) (h : n < 1000) : IntKind.u64.wrap (n : Int) = (n : Int) := by
  rw [IntKind.wrap_u64]
  omega

theorem u64_pred (n : Nat) (h : n < 1000) : IntKind.u64.wrap (((n + 1 : Nat) : Int) - 1) = (n : Int) := by
  rw [IntKind.wrap_u64]
  omega

theorem drop_fail {q : Nm} {a k : Nat} {s : St} (h : (s.remove (recN q (a + k))).1 ≠ 0) : dropA q a (k + 1) s = s.remove (recN q (a + k)) := by
  unfold dropA
  rw [if_neg h]
theorem drop_next {q : Nm} {a k : Nat} {s : St} (h : (s.remove (recN q (a + k))).1 = 0) : dropA q a (k + 1) s = dropA q a k (s.remove (recN q (a + k))).2 := by
  show (if _ then _ else _) = _
  rw [if_pos h]

theorem sub_one (m : Nat) (n : Int) (h : IntKind.u64.wrap ((m : Int) - 1) = n) (W : World) : (do eqGuard .sub 32 (.tmp 17) (.const (.int .u64 1)) (.int .u64 (m : Int)) (.int .u64 1); binOp .sub 32 (.int .u64 (m : Int)) (.int .u64 1) : Sem Value).run Tryz.prog W = .ok (.int .u64 n) W := by
  simp [eqGuard, binOp, go_sem, h]

/-- Where drop stands: k are left. -/
def DropAt (q : Nm) (a k0 : Nat) (s : St) (w1 : World) (T : Nat → Prop) (d c : Nat) (v : Value) (wr : World) : Prop :=
  ∃ k c' s1, v = .int .u64 ((a + k : Nat) : Int) ∧ k ≤ k0 ∧ c' + k ≤ c + k0 ∧ dropA q a k0 s = dropA q a k s1 ∧ Next w1 T d c' s1 wr

def DropEnd (q : Nm) (a k0 : Nat) (s : St) (w : World) (T : Nat → Prop) (d c : Nat) (e : Ending) (w' : World) : Prop := Must (dropA q a k0 s).1 e ∧ ∃ c', c' ≤ c + k0 ∧ Next w T d c' (dropA q a k0 s).2 w'

set_option maxHeartbeats 1000000 in
theorem wdrop_any {w : World} {T : Nat → Prop} {d c : Nat} {s : St} {q : Nm} (hq : q.length ≤ 4) (h : IsDisk w T d c s) {a k0 b : Nat} (hc : c + k0 ≤ 2000) (hb : b = a + k0) (hn : b ≤ 100) :
    Calls Tryz.prog 62 #[fv (some ⟨d, 0, none⟩) q, .int .u64 a, .int .u64 b] w (DropEnd q a k0 s w T d c) := by
  have H := Lib.hid h
  have HBa := Lib.hid hb
  have HNb := Lib.hid hn
  have HC := Lib.hid hc
  clear h hb hn hc
  go_enter Tryz.func62, Tryz.ntmps62
  go_wp2
  have hb0 : Below w.heap.size w (w.alloc (.cells #[.pointer (some ⟨d, 0, none⟩), nm q] 106)) := (Below.refl _ w).alloc (Nat.le_refl _) _
  have hbk : Blk (w.alloc (.cells #[.pointer (some ⟨d, 0, none⟩), nm q] 106)) w.heap.size 106 #[.pointer (some ⟨d, 0, none⟩), nm q] := Blk.new w _ _
  have hi := H.out.below hb0
  obtain ⟨w1, hw1⟩ : ∃ w1, w1 = w.alloc (.cells #[.pointer (some ⟨d, 0, none⟩), nm q] 106) := ⟨_, rfl⟩
  rw [← hw1] at hb0 hbk hi ⊢
  obtain ⟨B, hB⟩ : ∃ B, B = w.heap.size := ⟨_, rfl⟩
  rw [← hB] at hbk ⊢
  have HNT : Hid (¬ T B) := fun hT => by have := H.out.lt B hT; omega
  have HBk := Lib.hid hbk
  have HB0 := Lib.hid hb0
  have HI := Lib.hid hi
  clear hw1 hB hbk hb0 hi
  obtain ⟨L, hL⟩ : ∃ L, L = dropA q a k0 s := ⟨_, rfl⟩
  have HStart : Hid (DropAt q a k0 s w1 T d c (.int .u64 (b : Int)) w1) := ⟨k0, c, s, by rw [HBa.out], Nat.le_refl _, Nat.le_refl _, rfl, Next.refl HI.out⟩
  clear hL
  go_loopw [6] (fun s6 wr => DropAt q a k0 s w1 T d c s6 wr) (fun s6 _ => (intOf s6).toNat)
  case atStart => exact HStart.out
  case round =>
    obtain ⟨k, c', s1, rfl, hk, hc', hdr, hnx⟩ := hrel
    have HDr := Lib.hid hdr
    have HNx := Lib.hid hnx
    have HC' := Lib.hid hc'
    have HKk := Lib.hid hk
    clear hdr hnx hc' hk
    cases k with
    | zero =>
      rw [Nat.add_zero]
      have hfin : DropEnd q a k0 s w T d c (.returned (.tuple #[])) wr := by
        refine ⟨?_, c', by have := HC'.out; omega, ?_⟩
        · rw [HDr.out]; exact ⟨fun _ => rfl, fun h => absurd rfl h⟩
        · rw [HDr.out]; exact Next.pre HB0.out H.out.lt HNx.out
      have HFin := Lib.hid hfin
      clear hfin HStart HDr HNx HC' HKk
      go_wp2
      go_end0
      exact HFin.out
    | succ k =>
      have hak : a + k < 100 := by have := HKk.out; have := HBa.out; have := HNb.out; omega
      obtain ⟨m, hm⟩ : ∃ m, m = a + (k + 1) := ⟨_, rfl⟩
      have hm1 : m = (a + k) + 1 := by omega
      rw [← hm]
      have i3 : (a : Int) < (m : Int) := by omega
      have HM1 := Lib.hid hm1
      clear hm hm1
      go_upto_region 4 with fail
      have HBk1 := Lib.hid (HNx.out.blk HBk.out HNT.out)
      have hG : ∀ W W' : World, Below wr.heap.size wr W → Below W.heap.size W W' → Below wr.heap.size wr W' := fun W W' h h' => h.trans (h'.mono h.size)
      refine region_tails_by 7 [(13, .is (.pointer (some ⟨B, 0, none⟩))), (14, .is (dp d)), (15, .is (fv (some ⟨d, 0, none⟩) q)), (16, .is (nm (frontN q))), (17, .is (.int .u64 (m : Int))), (18, .is (.int .u64 ((a + k : Nat) : Int))), (19, .is (nm (recN q (a + k))))] [0, 1, 2, 3, 4, 5, 6, 7, 14, 19] (fun W => Below wr.heap.size wr W) (by kernel_rfl) (by kernel_rfl) (by kernel_rfl) (by kernel_rfl) (by kernel_rfl) (by decide) (by kernel_rfl) (by kernel_rfl) ((Below.refl _ _).drew) ?_ ?_
      · refine ⟨?c0, ?c1, ?c2, ?c3, ?c4, ?c5, ?c6, trivial⟩
        case c0 => exact ask_field (guard_none rfl) _ (.tmp 3) 0 (.pointer (some ⟨B, 0, none⟩)) (.pointer (some ⟨B, 0, none⟩)) rfl rfl (by intro k hk; cases hk; rfl) (fun W => by kernel_rfl)
        case c1 => exact ask_load (guard_none rfl) _ (.tmp 13) (.pointer (some ⟨B, 0, none⟩)) (dp d) rfl rfl (by intro k hk; cases hk; rfl) (fun W hW => load_dp W _ _ (by rw [hW.cell (p := ⟨B, 0, none⟩) HBk1.out.lt, HBk1.out.cell]; rfl))
        case c2 => exact ask_load (guard_none rfl) _ (.tmp 3) (.pointer (some ⟨B, 0, none⟩)) (fv (some ⟨d, 0, none⟩) q) rfl rfl (by intro k hk; cases hk; rfl) (fun W hW => load_files (HBk1.out.keep hW))
        case c3 => exact ask_call hG (guard_none rfl) _ _ _ #[fv (some ⟨d, 0, none⟩) q] (.is (nm (frontN q))) rfl (by kernel_rfl) rfl rfl (by intro k hk; cases hk; rfl) (fun W hW => (front_any _ q (front_len hq).2.2 W).mono fun e w' h => ⟨_, h.1, rfl, h.2⟩)
        case c4 => exact ask_copy (guard_none rfl) (.tmp 6) (.inl rfl) (by intro k hk; cases hk; rfl)
        case c5 => exact ask_bin (guard_none rfl) .sub _ _ (.tmp 17) _ (.int .u64 (m : Int)) (.int .u64 1) (.int .u64 ((a + k : Nat) : Int)) rfl rfl rfl (by intro k hk; cases hk; rfl) (fun W => sub_one m _ (by rw [HM1.out]; exact u64_pred (a + k) (by omega)) W)
        case c6 => exact ask_call hG (guard_none rfl) _ _ _ #[nm (frontN q), .int .u64 ((a + k : Nat) : Int)] (.is (nm (recN q (a + k)))) rfl (by kernel_rfl) rfl rfl (by intro k hk; cases hk; rfl) (fun W hW => (called_any _ (front_len hq).1 (a + k) hak W).mono fun e w' h => by obtain ⟨h1, rfl⟩ := h; exact ⟨_, h1, rfl, Below.refl _ _⟩)
      · intro a' W hW hd' hs' hf'
        have t0 : a'.tmps.getD 0 undef = fv (some ⟨d, 0, none⟩) q := hf' 0 rfl
        have t1 : a'.tmps.getD 1 undef = .int .u64 (a : Int) := hf' 1 rfl
        have t2 : a'.tmps.getD 2 undef = .int .u64 (b : Int) := hf' 2 rfl
        have t3 : a'.tmps.getD 3 undef = .pointer (some ⟨B, 0, none⟩) := hf' 3 rfl
        have t4 : a'.tmps.getD 4 undef = undef := hf' 4 rfl
        have t5 : a'.tmps.getD 5 undef = undef := hf' 5 rfl
        have t6 : a'.tmps.getD 6 undef = .int .u64 (m : Int) := hf' 6 rfl
        have t7 : a'.tmps.getD 7 undef = .int .u64 (b : Int) := hf' 7 rfl
        have t14 : a'.tmps.getD 14 undef = dp d := hf' 14 rfl
        have t19 : a'.tmps.getD 19 undef = nm (recN q (a + k)) := hf' 19 rfl
        obtain ⟨us, hus, ha'⟩ := act_open 22 a' hs' hd'
        rw [← hus] at t0 t1 t2 t3 t4 t5 t6 t7 t14 t19
        have el : ((List.range 22).map us).toArray = #[us 0, us 1, us 2, us 3, us 4, us 5, us 6, us 7, us 8, us 9, us 10, us 11, us 12, us 13, us 14, us 15, us 16, us 17, us 18, us 19, us 20, us 21] := rfl
        rw [el] at ha'
        subst ha'
        rw [t0, t1, t2, t3, t4, t5, t6, t7, t14, t19]
        have HW := Lib.hid hW
        clear hus t0 t1 t2 t3 t4 t5 t6 t7 t14 t19 el hf' hs' hd' hW
        simp only [List.drop_succ_cons, List.drop_zero]
        have HI2 := Lib.hid (HNx.out.disk.below HW.out)
        go_wp2_with fail
        refine (remove_any (n := recN q (a + k)) HI2.out (by have := HC'.out; have := HC.out; omega) (by have := (rec_len2 hq hak).1; omega)).mono ?_
        rintro e w2 ⟨rfl, h2⟩
        have hn2 := HNx.out.trans (Next.pre HW.out HNx.out.disk.lt h2)
        obtain ⟨x, hx⟩ : ∃ x, x = (s1.remove (recN q (a + k))).1 := ⟨_, rfl⟩
        rw [← hx]
        have HX := Lib.hid hx
        have HN2 := Lib.hid hn2
        clear h2 hx hn2
        go_wp2_with fail
        by_cases hx0 : x = 0
        · refine (must_any x _).mono ?_
          rintro e w3 ⟨hm, rfl⟩
          obtain rfl := hm.1 hx0
          have hnext : DropAt q a k0 s w1 T d c (.int .u64 ((a + k : Nat) : Int)) w3 := ⟨k, c' + 1, _, rfl, by have := HKk.out; omega, by have := HC'.out; omega, by rw [HDr.out]; exact drop_next (by rw [← HX.out]; exact hx0), HN2.out⟩
          have HNext := Lib.hid hnext
          obtain ⟨p, hp⟩ : ∃ p, p = a + k := ⟨_, rfl⟩
          rw [← hp] at HNext HM1 ⊢
          have hwr : IntKind.u64.wrap ((m : Int) - 1) = (p : Int) := by rw [HM1.out]; exact u64_pred p (by omega)
          clear hm hx0 hnext hp
          go_wp2
          refine ⟨HNext.out, ?_⟩
          have := HM1.out
          simp [intOf]
          omega
        · refine (must_any x _).mono ?_
          rintro e w3 ⟨hm, rfl⟩
          obtain rfl := hm.2 hx0
          have e1 : dropA q a k0 s = s1.remove (recN q (a + k)) := by rw [HDr.out]; exact drop_fail (by rw [← HX.out]; exact hx0)
          refine ⟨rfl, ?_, c' + 1, by have := HC'.out; omega, ?_⟩
          · rw [e1, ← HX.out]; exact hm
          · rw [e1]; exact Next.pre HB0.out H.out.lt HN2.out
end Go.Proofs.YthaggdkfaglgaaaGreatDoor

/- The log's files: the first number told. -/
namespace Go.Proofs.YthaggdkfaglgaaaGreatDoor
set_option maxRecDepth 20000
open Go.RowKit Go.Maps DiskMath WalMath FrameMath Reg

def MarkEnd (q : Nm) (a b : Nat) (s : St) (w : World) (T : Nat → Prop) (d c : Nat) (e : Ending) (w' : World) : Prop := Must (markA q s a b).1 e ∧ ∃ c', c' ≤ c + 1 ∧ Next w T d c' (markA q s a b).2 w'

set_option maxHeartbeats 1000000 in
theorem wmark_same {w : World} {T : Nat → Prop} {d c : Nat} {s : St} {q : Nm} (h : IsDisk w T d c s) {a b : Nat} (hc : c + 1 ≤ 2000) (ha : a < 100) (hb : b < 100) (hab : a = b) :
    Calls Tryz.prog 64 #[fv (some ⟨d, 0, none⟩) q, .int .u64 a, .int .u64 b] w (MarkEnd q a b s w T d c) := by
  have H := Lib.hid h
  have HC := Lib.hid hc
  have HA := Lib.hid ha
  have HBb := Lib.hid hb
  clear h hc ha hb
  subst hab
  have e1 : markA q s a a = (0, s) := by unfold markA; rw [if_pos rfl]
  have hfin : ∀ w1, Below w.heap.size w w1 → MarkEnd q a a s w T d c (.returned (.tuple #[])) w1 := fun w1 hb => by
    refine ⟨?_, c, Nat.le_succ c, ?_⟩
    · rw [e1]; exact ⟨fun _ => rfl, fun h => absurd rfl h⟩
    · rw [e1]; exact (Next.refl H.out).post hb
  have HFin := Lib.hid hfin
  clear e1 hfin
  go_enter Tryz.func64, Tryz.ntmps64
  go_wp2
  go_end0
  exact HFin.out _ ((Below.refl _ _).alloc (Nat.le_refl _) _)

set_option maxHeartbeats 1000000 in
theorem wmark_first {w : World} {T : Nat → Prop} {d c : Nat} {s : St} {q : Nm} (hq : q.length ≤ 4) (h : IsDisk w T d c s) {a b : Nat} (hc : c + 1 ≤ 2000) (ha : a < 100) (hb : b < 100) (hab : ¬ a = b) (ha0 : a = 0) :
    Calls Tryz.prog 64 #[fv (some ⟨d, 0, none⟩) q, .int .u64 a, .int .u64 b] w (MarkEnd q a b s w T d c) := by
  have H := Lib.hid h
  have HC := Lib.hid hc
  have HA := Lib.hid ha
  have HBb := Lib.hid hb
  clear h hc ha hb
  subst ha0
  have he : markA q s 0 b = s.write (markN q b) 0 [] := by unfold markA; rw [if_neg hab, if_pos rfl]
  have HE := Lib.hid he
  have i1 : ((0 : Int) == (b : Int)) = false := by
    rw [Bool.eq_false_iff, ne_eq, beq_iff_eq]
    omega
  have e0 : ((0 : Nat) : Int) = 0 := rfl
  rw [e0]
  clear he hab e0
  go_enter Tryz.func64, Tryz.ntmps64
  go_upto_region 4 with fail
  have hb0 : Below w.heap.size w (w.alloc (.cells #[.pointer (some ⟨d, 0, none⟩), nm q] 106)) := (Below.refl _ w).alloc (Nat.le_refl _) _
  have hbk : Blk (w.alloc (.cells #[.pointer (some ⟨d, 0, none⟩), nm q] 106)) w.heap.size 106 #[.pointer (some ⟨d, 0, none⟩), nm q] := Blk.new w _ _
  have hi := H.out.below hb0
  obtain ⟨w1, hw1⟩ : ∃ w1, w1 = w.alloc (.cells #[.pointer (some ⟨d, 0, none⟩), nm q] 106) := ⟨_, rfl⟩
  rw [← hw1] at hb0 hbk hi ⊢
  obtain ⟨B, hB⟩ : ∃ B, B = w.heap.size := ⟨_, rfl⟩
  rw [← hB] at hbk ⊢
  have HNT : Hid (¬ T B) := fun hT => by have := H.out.lt B hT; omega
  have HBk1 := Lib.hid hbk
  have HB0 := Lib.hid hb0
  have HI := Lib.hid hi
  clear hw1 hB hbk hb0 hi
  have hG : ∀ W W' : World, Below w1.heap.size w1 W → Below W.heap.size W W' → Below w1.heap.size w1 W' := fun W W' h h' => h.trans (h'.mono h.size)
  refine region_tails_by 6 [(25, .is (.pointer (some ⟨B, 0, none⟩))), (26, .is (dp d)), (27, .is (fv (some ⟨d, 0, none⟩) q)), (28, .is (nm (markF q))), (29, .is (.int .u64 (b : Int))), (30, .is (nm (markN q (b))))] [26, 30] (fun W => Below w1.heap.size w1 W) (by kernel_rfl) (by kernel_rfl) (by kernel_rfl) (by kernel_rfl) (by kernel_rfl) (by decide) (by kernel_rfl) (by kernel_rfl) ((Below.refl _ _).drew) ?_ ?_
  · refine ⟨?c0, ?c1, ?c2, ?c3, ?c4, ?c5, trivial⟩
    case c0 => exact ask_field (guard_none rfl) _ (.tmp 3) 0 (.pointer (some ⟨B, 0, none⟩)) (.pointer (some ⟨B, 0, none⟩)) rfl rfl (by intro k hk; cases hk; rfl) (fun W => by kernel_rfl)
    case c1 => exact ask_load (guard_none rfl) _ (.tmp 25) (.pointer (some ⟨B, 0, none⟩)) (dp d) rfl rfl (by intro k hk; cases hk; rfl) (fun W hW => load_dp W _ _ (by rw [hW.cell (p := ⟨B, 0, none⟩) HBk1.out.lt, HBk1.out.cell]; rfl))
    case c2 => exact ask_load (guard_none rfl) _ (.tmp 3) (.pointer (some ⟨B, 0, none⟩)) (fv (some ⟨d, 0, none⟩) q) rfl rfl (by intro k hk; cases hk; rfl) (fun W hW => load_files (HBk1.out.keep hW))
    case c3 => exact ask_call hG (guard_none rfl) _ _ _ #[fv (some ⟨d, 0, none⟩) q] (.is (nm (markF q))) rfl (by kernel_rfl) rfl rfl (by intro k hk; cases hk; rfl) (fun W hW => (markFront_any _ q (front_len hq).2.2 W).mono fun e w' h => ⟨_, h.1, rfl, h.2⟩)
    case c4 => exact ask_copy (guard_none rfl) (.tmp 2) (.inl rfl) (by intro k hk; cases hk; rfl)
    case c5 => exact ask_call hG (guard_none rfl) _ _ _ #[nm (markF q), .int .u64 ((b : Nat) : Int)] (.is (nm (markN q (b)))) rfl (by kernel_rfl) rfl rfl (by intro k hk; cases hk; rfl) (fun W hW => (called_any _ (front_len hq).2.1 (b) HBb.out W).mono fun e w' h => by obtain ⟨h1, rfl⟩ := h; exact ⟨_, h1, rfl, Below.refl _ _⟩)
  · intro a' W hW hd' hs' hf'
    have t26 : a'.tmps.getD 26 undef = dp d := hf' 26 rfl
    have t30 : a'.tmps.getD 30 undef = nm (markN q b) := hf' 30 rfl
    clear i1
    obtain ⟨us, hus, ha'⟩ := act_open 33 a' hs' hd'
    rw [← hus] at t26 t30
    have el : ((List.range 33).map us).toArray = #[us 0, us 1, us 2, us 3, us 4, us 5, us 6, us 7, us 8, us 9, us 10, us 11, us 12, us 13, us 14, us 15, us 16, us 17, us 18, us 19, us 20, us 21, us 22, us 23, us 24, us 25, us 26, us 27, us 28, us 29, us 30, us 31, us 32] := rfl
    rw [el] at ha'
    subst ha'
    rw [t26, t30]
    have HW := Lib.hid hW
    clear hus t26 t30 el hf' hs' hd' hW
    simp only [List.drop_succ_cons, List.drop_zero]
    have HI2 := Lib.hid (HI.out.below HW.out)
    go_wp2_with fail
    refine (write_any (n := markN q b) (a := 0) (ab := none) (lb := 0) (cb := 0) (b := []) HI2.out HC.out (by have := (rec_len2 hq HBb.out).2; omega) (by omega) (.inl ⟨rfl, rfl⟩) rfl (by omega)).mono ?_
    rintro e w2 ⟨rfl, h2⟩
    have hn2 := Next.pre (HB0.out.trans (HW.out.mono HB0.out.size)) H.out.lt h2
    obtain ⟨x, hx⟩ : ∃ x, x = (s.write (markN q b) 0 []).1 := ⟨_, rfl⟩
    rw [← hx]
    have hfin : ∀ e, Must x e → MarkEnd q 0 b s w T d c e w2 := fun e hm => ⟨by rw [HE.out, ← hx]; exact hm, c + 1, Nat.le_refl _, by rw [HE.out]; exact hn2⟩
    have HFin := Lib.hid hfin
    clear h2 hx hn2 hfin
    go_wp2_with fail
    by_cases hx0 : x = 0
    · refine (must_any x _).mono ?_
      rintro e w3 ⟨hm, rfl⟩
      obtain rfl := hm.1 hx0
      have HM := Lib.hid (HFin.out _ hm)
      clear hx0 hm
      go_wp2
      go_end0
      exact HM.out
    · refine (must_any x _).mono ?_
      rintro e w3 ⟨hm, rfl⟩
      obtain rfl := hm.2 hx0
      exact ⟨rfl, HFin.out _ hm⟩

set_option maxHeartbeats 1000000 in
theorem wmark_next {w : World} {T : Nat → Prop} {d c : Nat} {s : St} {q : Nm} (hq : q.length ≤ 4) (h : IsDisk w T d c s) {a b : Nat} (hc : c + 1 ≤ 2000) (ha : a < 100) (hb : b < 100) (hab : ¬ a = b) (ha0 : ¬ a = 0) :
    Calls Tryz.prog 64 #[fv (some ⟨d, 0, none⟩) q, .int .u64 a, .int .u64 b] w (MarkEnd q a b s w T d c) := by
  have H := Lib.hid h
  have HC := Lib.hid hc
  have HA := Lib.hid ha
  have HBb := Lib.hid hb
  clear h hc ha hb
  have he : markA q s a b = s.rename (markN q a) (markN q b) := by unfold markA; rw [if_neg hab, if_neg ha0]
  have HE := Lib.hid he
  have i1 : ((a : Int) == (b : Int)) = false := by
    rw [Bool.eq_false_iff, ne_eq, beq_iff_eq]
    omega
  have i2 : ((a : Int) == 0) = false := by
    rw [Bool.eq_false_iff, ne_eq, beq_iff_eq]
    omega
  clear he hab ha0
  go_enter Tryz.func64, Tryz.ntmps64
  go_upto_region 1 with fail
  have hb0 : Below w.heap.size w (w.alloc (.cells #[.pointer (some ⟨d, 0, none⟩), nm q] 106)) := (Below.refl _ w).alloc (Nat.le_refl _) _
  have hbk : Blk (w.alloc (.cells #[.pointer (some ⟨d, 0, none⟩), nm q] 106)) w.heap.size 106 #[.pointer (some ⟨d, 0, none⟩), nm q] := Blk.new w _ _
  have hi := H.out.below hb0
  obtain ⟨w1, hw1⟩ : ∃ w1, w1 = w.alloc (.cells #[.pointer (some ⟨d, 0, none⟩), nm q] 106) := ⟨_, rfl⟩
  rw [← hw1] at hb0 hbk hi ⊢
  obtain ⟨B, hB⟩ : ∃ B, B = w.heap.size := ⟨_, rfl⟩
  rw [← hB] at hbk ⊢
  have HNT : Hid (¬ T B) := fun hT => by have := H.out.lt B hT; omega
  have HBk1 := Lib.hid hbk
  have HB0 := Lib.hid hb0
  have HI := Lib.hid hi
  clear hw1 hB hbk hb0 hi
  have hG : ∀ W W' : World, Below w1.heap.size w1 W → Below W.heap.size W W' → Below w1.heap.size w1 W' := fun W W' h h' => h.trans (h'.mono h.size)
  refine region_tails_by 10 [(6, .is (.pointer (some ⟨B, 0, none⟩))), (7, .is (dp d)), (8, .is (fv (some ⟨d, 0, none⟩) q)), (9, .is (nm (markF q))), (10, .is (.int .u64 (a : Int))), (11, .is (nm (markN q (a)))), (12, .is (fv (some ⟨d, 0, none⟩) q)), (13, .is (nm (markF q))), (14, .is (.int .u64 (b : Int))), (15, .is (nm (markN q (b))))] [7, 11, 15] (fun W => Below w1.heap.size w1 W) (by kernel_rfl) (by kernel_rfl) (by kernel_rfl) (by kernel_rfl) (by kernel_rfl) (by decide) (by kernel_rfl) (by kernel_rfl) ((Below.refl _ _).drew) ?_ ?_
  · refine ⟨?c0, ?c1, ?c2, ?c3, ?c4, ?c5, ?c6, ?c7, ?c8, ?c9, trivial⟩
    case c0 => exact ask_field (guard_none rfl) _ (.tmp 3) 0 (.pointer (some ⟨B, 0, none⟩)) (.pointer (some ⟨B, 0, none⟩)) rfl rfl (by intro k hk; cases hk; rfl) (fun W => by kernel_rfl)
    case c1 => exact ask_load (guard_none rfl) _ (.tmp 6) (.pointer (some ⟨B, 0, none⟩)) (dp d) rfl rfl (by intro k hk; cases hk; rfl) (fun W hW => load_dp W _ _ (by rw [hW.cell (p := ⟨B, 0, none⟩) HBk1.out.lt, HBk1.out.cell]; rfl))
    case c2 => exact ask_load (guard_none rfl) _ (.tmp 3) (.pointer (some ⟨B, 0, none⟩)) (fv (some ⟨d, 0, none⟩) q) rfl rfl (by intro k hk; cases hk; rfl) (fun W hW => load_files (HBk1.out.keep hW))
    case c3 => exact ask_call hG (guard_none rfl) _ _ _ #[fv (some ⟨d, 0, none⟩) q] (.is (nm (markF q))) rfl (by kernel_rfl) rfl rfl (by intro k hk; cases hk; rfl) (fun W hW => (markFront_any _ q (front_len hq).2.2 W).mono fun e w' h => ⟨_, h.1, rfl, h.2⟩)
    case c4 => exact ask_copy (guard_none rfl) (.tmp 1) (.inl rfl) (by intro k hk; cases hk; rfl)
    case c5 => exact ask_call hG (guard_none rfl) _ _ _ #[nm (markF q), .int .u64 ((a : Nat) : Int)] (.is (nm (markN q (a)))) rfl (by kernel_rfl) rfl rfl (by intro k hk; cases hk; rfl) (fun W hW => (called_any _ (front_len hq).2.1 (a) HA.out W).mono fun e w' h => by obtain ⟨h1, rfl⟩ := h; exact ⟨_, h1, rfl, Below.refl _ _⟩)
    case c6 => exact ask_load (guard_none rfl) _ (.tmp 3) (.pointer (some ⟨B, 0, none⟩)) (fv (some ⟨d, 0, none⟩) q) rfl rfl (by intro k hk; cases hk; rfl) (fun W hW => load_files (HBk1.out.keep hW))
    case c7 => exact ask_call hG (guard_none rfl) _ _ _ #[fv (some ⟨d, 0, none⟩) q] (.is (nm (markF q))) rfl (by kernel_rfl) rfl rfl (by intro k hk; cases hk; rfl) (fun W hW => (markFront_any _ q (front_len hq).2.2 W).mono fun e w' h => ⟨_, h.1, rfl, h.2⟩)
    case c8 => exact ask_copy (guard_none rfl) (.tmp 2) (.inl rfl) (by intro k hk; cases hk; rfl)
    case c9 => exact ask_call hG (guard_none rfl) _ _ _ #[nm (markF q), .int .u64 ((b : Nat) : Int)] (.is (nm (markN q (b)))) rfl (by kernel_rfl) rfl rfl (by intro k hk; cases hk; rfl) (fun W hW => (called_any _ (front_len hq).2.1 (b) HBb.out W).mono fun e w' h => by obtain ⟨h1, rfl⟩ := h; exact ⟨_, h1, rfl, Below.refl _ _⟩)
  · intro a' W hW hd' hs' hf'
    have t7 : a'.tmps.getD 7 undef = dp d := hf' 7 rfl
    have t11 : a'.tmps.getD 11 undef = nm (markN q a) := hf' 11 rfl
    have t15 : a'.tmps.getD 15 undef = nm (markN q b) := hf' 15 rfl
    clear i1 i2
    obtain ⟨us, hus, ha'⟩ := act_open 33 a' hs' hd'
    rw [← hus] at t7 t11 t15
    have el : ((List.range 33).map us).toArray = #[us 0, us 1, us 2, us 3, us 4, us 5, us 6, us 7, us 8, us 9, us 10, us 11, us 12, us 13, us 14, us 15, us 16, us 17, us 18, us 19, us 20, us 21, us 22, us 23, us 24, us 25, us 26, us 27, us 28, us 29, us 30, us 31, us 32] := rfl
    rw [el] at ha'
    subst ha'
    rw [t7, t11, t15]
    have HW := Lib.hid hW
    clear hus t7 t11 t15 el hf' hs' hd' hW
    simp only [List.drop_succ_cons, List.drop_zero]
    have HI2 := Lib.hid (HI.out.below HW.out)
    go_wp2_with fail
    refine (rename_any (n := markN q a) (q := markN q b) HI2.out HC.out (by have := (rec_len2 hq HA.out).2; omega) (by have := (rec_len2 hq HBb.out).2; omega)).mono ?_
    rintro e w2 ⟨rfl, h2⟩
    have hn2 := Next.pre (HB0.out.trans (HW.out.mono HB0.out.size)) H.out.lt h2
    obtain ⟨x, hx⟩ : ∃ x, x = (s.rename (markN q a) (markN q b)).1 := ⟨_, rfl⟩
    rw [← hx]
    have hfin : ∀ e, Must x e → MarkEnd q a b s w T d c e w2 := fun e hm => ⟨by rw [HE.out, ← hx]; exact hm, c + 1, Nat.le_refl _, by rw [HE.out]; exact hn2⟩
    have HFin := Lib.hid hfin
    clear h2 hx hn2 hfin
    go_wp2_with fail
    by_cases hx0 : x = 0
    · refine (must_any x _).mono ?_
      rintro e w3 ⟨hm, rfl⟩
      obtain rfl := hm.1 hx0
      have HM := Lib.hid (HFin.out _ hm)
      clear hx0 hm
      go_wp2
      go_end0
      exact HM.out
    · refine (must_any x _).mono ?_
      rintro e w3 ⟨hm, rfl⟩
      obtain rfl := hm.2 hx0
      exact ⟨rfl, HFin.out _ hm⟩

theorem wmark_any {w : World} {T : Nat → Prop} {d c : Nat} {s : St} {q : Nm} (hq : q.length ≤ 4) (h : IsDisk w T d c s) {a b : Nat} (hc : c + 1 ≤ 2000) (ha : a < 100) (hb : b < 100) :
    Calls Tryz.prog 64 #[fv (some ⟨d, 0, none⟩) q, .int .u64 a, .int .u64 b] w (MarkEnd q a b s w T d c) := by
  by_cases hab : a = b
  · exact wmark_same h hc ha hb hab
  · by_cases ha0 : a = 0
    · exact wmark_first hq h hc ha hb hab ha0
    · exact wmark_next hq h hc ha hb hab ha0
end Go.Proofs.YthaggdkfaglgaaaGreatDoor

/- Which file is called by which number. -/
namespace Go.Proofs.YthaggdkfaglgaaaGreatDoor
set_option maxRecDepth 20000
open Go.RowKit Go.Maps DiskMath WalMath Reg

theorem pre_true (p t : Nm) : Lib.hasPrefix (p ++ t) p = true := by
  simp [Lib.hasPrefix]
theorem pre_trim (p t : Nm) : Lib.trimPrefix (p ++ t) p = t := by
  simp [Lib.trimPrefix, Lib.hasPrefix]
theorem pre_false {p s : Nm} (h : ∀ t, s ≠ p ++ t) : Lib.hasPrefix s p = false := by
  cases hh : Lib.hasPrefix s p with
  | false => rfl
  | true =>
    exfalso
    simp only [Lib.hasPrefix, List.isPrefixOf_iff_prefix] at hh
    obtain ⟨t, ht⟩ := hh
    exact h t ht.symm

/-- The library's error for numerals that are none lies in its variable. -/
def Err (w : World) : Prop := ∃ te pe, w.cell? ⟨2, 0, none⟩ = some (.iface te pe)

theorem Err.below {w w' : World} (h : Err w) (hb : Below w.heap.size w w') : Err w' := by
  obtain ⟨te, pe, hc⟩ := h
  exact ⟨te, pe, by rw [hb.cell (World.block_lt_of_cell? w _ hc)]; exact hc⟩

theorem number_ok (front : Nm) (hf : front.length ≤ 1000) (n : Nat) (hn : n < 100) (w : World) : Calls Tryz.prog 148 #[nm front, nm (front ++ dec n)] w fun e w' => e = .returned (.tuple #[.int .u64 n, .bool true]) ∧ Below w.heap.size w w' := by
  have h1 := cutPrefix_any (front ++ dec n) front
  simp only [pre_true, pre_trim] at h1
  have h2 := called_any front hf n hn
  obtain ⟨X, hX⟩ : ∃ X : ByteArray, X = ⟨(front ++ dec n).toArray⟩ := ⟨_, rfl⟩
  have e1 : nm (front ++ dec n) = .string X := by rw [hX]; rfl
  rw [e1] at h1 h2 ⊢
  have H1 := Lib.hid h1
  have H2 := Lib.hid h2
  have H3 := Lib.hid (fun W => parse_dec hn W)
  clear h1 h2 hX e1
  obtain ⟨D, hD⟩ : ∃ D, D = nm (dec n) := ⟨_, rfl⟩
  obtain ⟨F, hF⟩ : ∃ F, F = nm front := ⟨_, rfl⟩
  rw [← hD] at H1 H3
  rw [← hF] at H1 H2 ⊢
  clear hD hF
  go_enter Tryz.func148, Tryz.ntmps148
  go_wp2_with fail
  refine (H1.out w).mono ?_
  rintro e w' ⟨rfl, rfl⟩
  go_wp2_with fail
  refine (H3.out _).mono ?_
  rintro e w2 ⟨rfl, hb⟩
  have HB := Lib.hid hb
  clear hb
  go_wp2_with fail
  refine (H2.out _).mono ?_
  rintro e w3 ⟨rfl, rfl⟩
  go_wp2
  go_ret2
  exact ⟨rfl, HB.out⟩

theorem number_f (front : Nm) (n : Nat) (hn : n < 100) (w : World) (he : Err w) : Calls Tryz.prog 148 #[nm front, nm (front ++ 102 :: dec n)] w fun e w' => e = .returned (.tuple #[.int .u64 0, .bool false]) ∧ Below w.heap.size w w' := by
  have h1 := cutPrefix_any (front ++ 102 :: dec n) front
  simp only [pre_true, pre_trim] at h1
  obtain ⟨te, pe, hc⟩ := he
  have h3 := parse_f hn _ w hc (.inr ⟨te, pe, rfl⟩)
  obtain ⟨X, hX⟩ : ∃ X, X = nm (front ++ 102 :: dec n) := ⟨_, rfl⟩
  rw [← hX] at h1 ⊢
  obtain ⟨D, hD⟩ : ∃ D, D = nm (102 :: dec n) := ⟨_, rfl⟩
  obtain ⟨F, hF⟩ : ∃ F, F = nm front := ⟨_, rfl⟩
  rw [← hD] at h1 h3
  rw [← hF] at h1 ⊢
  have H1 := Lib.hid h1
  have H3 := Lib.hid h3
  clear hD hF hX h1 h3 hc
  go_enter Tryz.func148, Tryz.ntmps148
  go_wp2_with fail
  refine (H1.out w).mono ?_
  rintro e w' ⟨rfl, rfl⟩
  go_wp2_with fail
  refine H3.out.mono ?_
  rintro e w2 ⟨ty, N, rfl, hb⟩
  have HB := Lib.hid hb
  clear hb H3
  go_wp2
  go_ret2
  exact ⟨rfl, HB.out⟩

theorem number_no (front file : Nm) (h : Lib.hasPrefix file front = false) (w : World) : Calls Tryz.prog 148 #[nm front, nm file] w fun e w' => e = .returned (.tuple #[.int .u64 0, .bool false]) ∧ Below w.heap.size w w' := by
  have h1 := cutPrefix_any file front
  rw [h] at h1
  obtain ⟨X, hX⟩ : ∃ X, X = nm file := ⟨_, rfl⟩
  obtain ⟨D, hD⟩ : ∃ D, D = nm (Lib.trimPrefix file front) := ⟨_, rfl⟩
  obtain ⟨F, hF⟩ : ∃ F, F = nm front := ⟨_, rfl⟩
  rw [← hX, ← hD, ← hF] at h1
  rw [← hX, ← hF]
  have H1 := Lib.hid h1
  clear hD hF hX h1 h
  go_enter Tryz.func148, Tryz.ntmps148
  go_wp2_with fail
  refine (H1.out w).mono ?_
  rintro e w' ⟨rfl, rfl⟩
  go_wp2
  go_ret2
  exact ⟨rfl, Below.refl _ _⟩

theorem rec_no_mark (q : Nm) {n : Nat} (hn : n < 100) : Lib.hasPrefix (recN q n) (markF q) = false := pre_false fun t e => by
  unfold recN markF at e
  rw [List.append_assoc, List.append_assoc] at e
  have h1 := List.append_cancel_left e
  simp only [List.cons_append, List.nil_append, List.cons.injEq, true_and] at h1
  have h2 := dec_mem hn (c := 102) (by rw [h1]; simp)
  have : (102 : UInt8).toNat = 102 := rfl
  omega

theorem mark_form (q : Nm) (n : Nat) : markN q n = frontN q ++ 102 :: dec n := by
  simp [markN, frontN]

/-- Whether a file is a log's record, or mark; its number. -/
theorem num_rec_rec {q : Nm} (hq : q.length ≤ 4) {n : Nat} (hn : n < 100) (w : World) : Calls Tryz.prog 148 #[nm (frontN q), nm (recN q n)] w fun e w' => e = .returned (.tuple #[.int .u64 n, .bool true]) ∧ Below w.heap.size w w' :=
  number_ok (frontN q) (front_len hq).1 n hn w
theorem num_rec_mark {q : Nm} {n : Nat} (hn : n < 100) (w : World) (he : Err w) : Calls Tryz.prog 148 #[nm (frontN q), nm (markN q n)] w fun e w' => e = .returned (.tuple #[.int .u64 0, .bool false]) ∧ Below w.heap.size w w' := by
  rw [mark_form]
  exact number_f (frontN q) n hn w he
theorem num_mark_rec {q : Nm} {n : Nat} (hn : n < 100) (w : World) : Calls Tryz.prog 148 #[nm (markF q), nm (recN q n)] w fun e w' => e = .returned (.tuple #[.int .u64 0, .bool false]) ∧ Below w.heap.size w w' :=
  number_no _ _ (rec_no_mark q hn) w
theorem num_mark_mark {q : Nm} (hq : q.length ≤ 4) {n : Nat} (hn : n < 100) (w : World) : Calls Tryz.prog 148 #[nm (markF q), nm (markN q n)] w fun e w' => e = .returned (.tuple #[.int .u64 n, .bool true]) ∧ Below w.heap.size w w' :=
  number_ok (markF q) (front_len hq).2.1 n hn w
end Go.Proofs.YthaggdkfaglgaaaGreatDoor

/- Which files are a log's. -/
namespace Go.Proofs.YthaggdkfaglgaaaGreatDoor
set_option maxRecDepth 20000
open Go.RowKit Go.Maps DiskMath WalMath Reg

set_option maxHeartbeats 1000000 in
theorem isOf_rec {d : Nat} {q : Nm} (hq : q.length ≤ 4) {n f nx : Nat} (hn : n < 100) (w : World) :
    Calls Tryz.prog 152 #[fv (some ⟨d, 0, none⟩) q, nm (recN q n), .int .u64 f, .int .u64 nx] w fun e w' => e = .returned (.bool (keepB q f nx (recN q n))) ∧ Below w.heap.size w w' := by
  rw [keepB_rec hn]
  have H1 := Lib.hid (front_any (some ⟨d, 0, none⟩) q (front_len hq).2.2)
  have H2 := Lib.hid (num_rec_rec hq hn)
  obtain ⟨N, hN⟩ : ∃ N : ByteArray, N = ⟨q.toArray⟩ := ⟨_, rfl⟩
  obtain ⟨X, hX⟩ : ∃ X, X = nm (recN q n) := ⟨_, rfl⟩
  obtain ⟨F, hF⟩ : ∃ F, F = nm (frontN q) := ⟨_, rfl⟩
  rw [← hX, ← hF] at H2
  rw [← hF] at H1
  rw [← hX]
  unfold fv nm at H1 ⊢
  rw [← hN] at H1 ⊢
  clear hN hX hF
  by_cases h1 : f ≤ n
  · have i1 : (f : Int) ≤ (n : Int) := by omega
    have e1 : (decide (f ≤ n) && decide (n < nx)) = decide (n < nx) := by simp [h1]
    have i2 : decide (f ≤ n) = true := by simpa using h1
    rw [e1]
    clear e1
    go_enter Tryz.func152, Tryz.ntmps152
    go_wp2_with fail
    have hb0 : Below w.heap.size w (w.alloc (.cells #[.pointer (some ⟨d, 0, none⟩), .string N] 106)) := (Below.refl _ w).alloc (Nat.le_refl _) _
    have HB0 := Lib.hid hb0
    refine (H1.out _).mono ?_
    rintro e w2 ⟨rfl, hb2⟩
    have HB2 := Lib.hid (HB0.out.trans (hb2.mono HB0.out.size))
    clear hb0 hb2
    go_wp2_with fail
    refine (H2.out _).mono ?_
    rintro e w3 ⟨rfl, hb3⟩
    have HB3 := Lib.hid (HB2.out.trans (hb3.mono HB2.out.size))
    clear hb3
    go_wp2
    go_ret
    exact ⟨rfl, HB3.out⟩
  · have i1 : ¬ (f : Int) ≤ (n : Int) := by omega
    have i2 : decide ((f : Int) ≤ (n : Int)) = false := by simpa using i1
    have e1 : (decide (f ≤ n) && decide (n < nx)) = false := by simp [h1]
    have i3 : decide (f ≤ n) = false := by simpa using h1
    rw [e1]
    clear e1 i1
    go_enter Tryz.func152, Tryz.ntmps152
    go_wp2_with fail
    have hb0 : Below w.heap.size w (w.alloc (.cells #[.pointer (some ⟨d, 0, none⟩), .string N] 106)) := (Below.refl _ w).alloc (Nat.le_refl _) _
    have HB0 := Lib.hid hb0
    refine (H1.out _).mono ?_
    rintro e w2 ⟨rfl, hb2⟩
    have HB2 := Lib.hid (HB0.out.trans (hb2.mono HB0.out.size))
    clear hb0 hb2
    go_wp2_with fail
    refine (H2.out _).mono ?_
    rintro e w3 ⟨rfl, hb3⟩
    have HB3 := Lib.hid (HB2.out.trans (hb3.mono HB2.out.size))
    clear hb3
    go_wp2
    go_ret
    exact ⟨rfl, HB3.out⟩

set_option maxHeartbeats 1000000 in
theorem isOf_mark {d : Nat} {q : Nm} (hq : q.length ≤ 4) {n f nx : Nat} (hn : n < 100) (hf : f < 100) (w : World) (he : Err w) :
    Calls Tryz.prog 152 #[fv (some ⟨d, 0, none⟩) q, nm (markN q n), .int .u64 f, .int .u64 nx] w fun e w' => e = .returned (.bool (keepB q f nx (markN q n))) ∧ Below w.heap.size w w' := by
  rw [keepB_mark hn hf]
  have H1 := Lib.hid (front_any (some ⟨d, 0, none⟩) q (front_len hq).2.2)
  have H2 := Lib.hid (fun W => num_rec_mark (q := q) hn W)
  have H3 := Lib.hid (markFront_any (some ⟨d, 0, none⟩) q (front_len hq).2.2)
  have H4 := Lib.hid (num_mark_mark hq hn)
  have HEr := Lib.hid he
  obtain ⟨N, hN⟩ : ∃ N : ByteArray, N = ⟨q.toArray⟩ := ⟨_, rfl⟩
  obtain ⟨X, hX⟩ : ∃ X, X = nm (markN q n) := ⟨_, rfl⟩
  obtain ⟨F, hF⟩ : ∃ F, F = nm (frontN q) := ⟨_, rfl⟩
  obtain ⟨M, hM⟩ : ∃ M, M = nm (markF q) := ⟨_, rfl⟩
  rw [← hX, ← hF] at H2
  rw [← hX, ← hM] at H4
  rw [← hF] at H1
  rw [← hM] at H3
  rw [← hX]
  unfold fv nm at H1 H3 ⊢
  rw [← hN] at H1 H3 ⊢
  clear hN hX hF hM he
  obtain ⟨r, hr⟩ : ∃ r, r = (decide (n = f) && decide (0 < f)) := ⟨_, rfl⟩
  rw [← hr]
  have HR := Lib.hid hr
  clear hr
  go_enter Tryz.func152, Tryz.ntmps152
  go_wp2_with fail
  have hb0 : Below w.heap.size w (w.alloc (.cells #[.pointer (some ⟨d, 0, none⟩), .string N] 106)) := (Below.refl _ w).alloc (Nat.le_refl _) _
  have hbk : Blk (w.alloc (.cells #[.pointer (some ⟨d, 0, none⟩), .string N] 106)) w.heap.size 106 #[.pointer (some ⟨d, 0, none⟩), .string N] := Blk.new w _ _
  have HB0 := Lib.hid hb0
  have HBk := Lib.hid hbk
  refine (H1.out _).mono ?_
  rintro e w2 ⟨rfl, hb2⟩
  have HBk2 := Lib.hid (HBk.out.keep hb2)
  have HB2 := Lib.hid (HB0.out.trans (hb2.mono HB0.out.size))
  clear hb0 hb2 hbk
  go_wp2_with fail
  refine (H2.out w2 (HEr.out.below HB2.out)).mono ?_
  rintro e w3 ⟨rfl, hb3⟩
  have HBk3 := Lib.hid (HBk2.out.keep hb3)
  have HB3 := Lib.hid (HB2.out.trans (hb3.mono HB2.out.size))
  clear hb3
  have c0 : w3.cell? ⟨w.heap.size, 0, none⟩ = some (.pointer (some ⟨d, 0, none⟩)) := by rw [HBk3.out.cell]; rfl
  have c1 : w3.cell? ⟨w.heap.size, 1, none⟩ = some (.string N) := by rw [HBk3.out.cell]; rfl
  go_wp2_with fail
  refine (H3.out w3).mono ?_
  rintro e w4 ⟨rfl, hb4⟩
  have HB4 := Lib.hid (HB3.out.trans (hb4.mono HB3.out.size))
  clear hb4 c0 c1
  go_wp2_with fail
  refine (H4.out w4).mono ?_
  rintro e w5 ⟨rfl, hb5⟩
  have HB5 := Lib.hid (HB4.out.trans (hb5.mono HB4.out.size))
  clear hb5
  by_cases h1 : n = f
  · subst h1
    by_cases h2 : 0 < n
    · have i2 : (n : Int) > 0 := by omega
      have i3 : decide (0 < n) = true := by simpa using h2
      have hrt : r = true := by rw [HR.out]; simp [h2]
      subst hrt
      go_wp2
      go_ret
      exact ⟨rfl, HB5.out⟩
    · have hn0 : n = 0 := by omega
      subst hn0
      have hrt : r = false := by rw [HR.out]; simp
      subst hrt
      clear h2
      go_wp2
      go_ret
      exact ⟨rfl, HB5.out⟩
  · have i1 : ((n : Int) == (f : Int)) = false := by
      rw [Bool.eq_false_iff, ne_eq, beq_iff_eq]
      omega
    have hrt : r = false := by rw [HR.out]; simp [h1]
    subst hrt
    clear h1
    go_wp2
    go_ret
    exact ⟨rfl, HB5.out⟩

theorem isOf_any {d : Nat} {q : Nm} (hq : q.length ≤ 4) {x : Nm} {n f nx : Nat} (hn : n < 100) (hx : x = recN q n ∨ x = markN q n) (hf : f < 100) (w : World) (he : Err w) :
    Calls Tryz.prog 152 #[fv (some ⟨d, 0, none⟩) q, nm x, .int .u64 f, .int .u64 nx] w fun e w' => e = .returned (.bool (keepB q f nx x)) ∧ Below w.heap.size w w' := by
  rcases hx with rfl | rfl
  · exact isOf_rec hq hn w
  · exact isOf_mark hq hn hf w he
end Go.Proofs.YthaggdkfaglgaaaGreatDoor

/- The log's files: the first number as it was told; what is swept away. -/
namespace Go.Proofs.YthaggdkfaglgaaaGreatDoor
set_option maxRecDepth 20000
open Go.RowKit Go.Maps DiskMath WalMath Reg

theorem Nms.at {w : World} {B : Nat} {a : Option Addr} {n c : Nat} {l : List Nm} (h : Nms w B (.slice a n c) l) {i : Nat} {x : Nm} (hi : l[i]? = some x) : ∃ g, a = some ⟨g, 0, none⟩ ∧ w.cell? ⟨g, i, none⟩ = some (nm x) := by
  have hlt := (List.getElem?_eq_some_iff.1 hi).1
  rcases h.2 with ⟨_, h0⟩ | ⟨g, cap, cur, hv, _, hg, hn, hm, hs, ht⟩
  · omega
  · simp at hv
    obtain ⟨rfl, hn', -⟩ := hv
    subst hn'
    refine ⟨g, rfl, ?_⟩
    rw [World.ownsRow.cellAt h _ (by simpa using hlt)]
    simp [hi]

theorem strs_index (W : World) (g n cap i : Nat) (hi : i < n) : (Instr.indexAt 189 (.slice (some ⟨g, 0, none⟩) n cap) (.int .i64 (i : Int))).run Tryz.prog W = .ok (.pointer (some ⟨g, i, none⟩)) W := by
  have he : Tryz.prog.elem 189 = 9 := by kernel_rfl
  have hs : (Go.sizeOf 9).run Tryz.prog W = .ok 1 W := by kernel_rfl
  have ht : Tryz.prog.underlying 189 = some (.slice (Tryz.prog.elem 189)) := by rw [he]; exact Tryz.underlying189
  rw [run_indexAt_slice (h := ht), if_pos (by omega), he, hs]
  simp [Result.andThen, Addr.add]
  exact fun h => h.symm

theorem slice_form {w : World} {B : Nat} {v : Value} {l : List Nm} (h : Nms w B v l) : ∃ a n c, v = .slice a n c := by
  rcases h.2 with ⟨rfl, _⟩ | ⟨g, cap, cur, rfl, _⟩
  · exact ⟨_, _, _, rfl⟩
  · exact ⟨_, _, _, rfl⟩

theorem nms_len {w : World} {B : Nat} {a : Option Addr} {n c : Nat} {l : List Nm} (h : Nms w B (.slice a n c) l) : n = l.length := by
  rcases h.2 with ⟨e, h0⟩ | ⟨g, cap, cur, e, _⟩
  · simp at e; omega
  · simp at e; exact e.2.1

theorem Nms.keep {w w' : World} {B : Nat} {v : Value} {l : List Nm} (h : Nms w B v l) (hb : Below w.heap.size w w') : Nms w' B v l := by
  refine ⟨h.1, ?_⟩
  rcases h.2 with h0 | ⟨g, cap, cur, h1, h2, h3, h4⟩
  · exact .inl h0
  · exact .inr ⟨g, cap, cur, h1, h2, by rw [hb.block g (Array.getElem?_eq_some_iff.1 h3).1]; exact h3, h4⟩

theorem pre_own {q x : Nm} {n : Nat} (h : x = recN q n ∨ x = markN q n) : Lib.hasPrefix x (frontN q) = true := by
  rcases h with rfl | rfl
  · exact pre_true (frontN q) (dec n)
  · rw [mark_form]; exact pre_true (frontN q) _

/-- Where marked stands. -/
def MarkAt (q : Nm) (l : List Nm) (f : Nat) (w1 : World) (v3 v12 : Value) (wr : World) : Prop :=
  ∃ m i : Nat, v3 = .int .u64 (m : Int) ∧ v12 = .int .i64 (i : Int) ∧ i ≤ l.length ∧ (m = 0 ∨ m = f) ∧ (∀ j, j < i → l[j]? = some (markN q f) → m = f) ∧ Below w1.heap.size w1 wr

set_option maxHeartbeats 1000000 in
theorem wmarked_any {w : World} {T : Nat → Prop} {d c : Nat} {s : St} {q : Nm} (hq : q.length ≤ 4) (h : IsDisk w T d c s) {f lo : Nat} {R : List (List UInt8)} (hm : May q s.now f R lo) (he : Err w) :
    Calls Tryz.prog 102 #[fv (some ⟨d, 0, none⟩) q] w fun e w' => e = .returned (.int .u64 (f : Int)) ∧ Below w.heap.size w w' := by
  have H := Lib.hid h
  have HM := Lib.hid hm
  have HE := Lib.hid he
  have HL := Lib.hid hm.few
  have HF100 : Hid (f < 100) := by have := hm.lim; show f < 100; omega
  have HF := Lib.hid (markFront_any (some ⟨d, 0, none⟩) q (front_len hq).2.2)
  obtain ⟨Qb, hQb⟩ : ∃ Qb : ByteArray, Qb = ⟨q.toArray⟩ := ⟨_, rfl⟩
  have eQ : nm q = .string Qb := by rw [hQb]; rfl
  unfold fv at HF ⊢
  rw [eQ] at HF ⊢
  clear h hm he hQb eQ
  go_enter Tryz.func102, Tryz.ntmps102
  go_wp2_with fail
  have hb0 : Below w.heap.size w (w.alloc (.cells #[.pointer (some ⟨d, 0, none⟩), .string Qb] 106)) := (Below.refl _ w).alloc (Nat.le_refl _) _
  have hbk : Blk (w.alloc (.cells #[.pointer (some ⟨d, 0, none⟩), .string Qb] 106)) w.heap.size 106 #[.pointer (some ⟨d, 0, none⟩), .string Qb] := Blk.new w _ _
  have hi := H.out.below hb0
  obtain ⟨w0, hw0⟩ : ∃ w0, w0 = w.alloc (.cells #[.pointer (some ⟨d, 0, none⟩), .string Qb] 106) := ⟨_, rfl⟩
  rw [← hw0] at hb0 hbk hi ⊢
  obtain ⟨B, hB⟩ : ∃ B, B = w.heap.size := ⟨_, rfl⟩
  rw [← hB] at hbk ⊢
  have HNT : Hid (¬ T B) := fun hT => by have := H.out.lt B hT; omega
  refine (list_any hi).mono ?_
  rintro e w1 ⟨v, rfl, hnms, hb1⟩
  obtain ⟨na, nn, nc, rfl⟩ := slice_form hnms
  have hnn := nms_len hnms
  have HBk := Lib.hid (hbk.keep hb1)
  have HB0 := Lib.hid (hb0.trans (hb1.mono hb0.size))
  have HI := Lib.hid (hi.below hb1)
  have HNms := Lib.hid hnms
  have HNn := Lib.hid hnn
  have HNA : Hid (∀ g, na = some ⟨g, 0, none⟩ → w0.heap.size ≤ g ∧ g < w1.heap.size) := fun g hg => by
    subst hg
    exact World.ownsRow.lt hnms g rfl
  have HNS : Hid (∀ k, T k → k < w0.heap.size) := hi.lt
  clear hw0 hB hbk hb0 hi hnms hb1 hnn
  obtain ⟨L, hL⟩ : ∃ L, L = s.now.map (·.1) := ⟨_, rfl⟩
  rw [← hL] at HNms HNn
  have HLL : Hid (L.length ≤ 200) := by
    have h1 := HL.out
    rw [hL]
    show (s.now.map (·.1)).length ≤ 200
    rw [List.length_map]
    exact h1
  have HLe := Lib.hid hL
  clear hL
  have HStart : Hid (MarkAt q L f w1 (.int .u64 0) (.int .i64 0) w1) := ⟨0, 0, rfl, rfl, Nat.zero_le _, .inl rfl, fun j hj => by omega, Below.refl _ _⟩
  go_wp2
  go_loopw [3, 12] (fun s3 s12 wr => MarkAt q L f w1 s3 s12 wr) (fun _ s12 _ => nn - (intOf s12).toNat)
  case atStart => exact HStart.out
  case round =>
    obtain ⟨m, i, rfl, rfl, hi, hm, hj, hbr⟩ := hrel
    have HMm := Lib.hid hm
    have HJ := Lib.hid hj
    have HBr := Lib.hid hbr
    clear hm hj hbr
    have hn200 : nn ≤ 200 := by have := HLL.out; have := HNn.out; omega
    by_cases hlt : i < nn
    · obtain ⟨x, hx⟩ : ∃ x, L[i]? = some x := ⟨L[i]'(by have := HNn.out; omega), List.getElem?_eq_getElem _⟩
      obtain ⟨g, rfl, hc⟩ := Nms.at (HNms.out.keep HBr.out) hx
      have hidx : ∀ W, (Instr.indexAt 189 (.slice (some ⟨g, 0, none⟩) nn nc) (.int .i64 (i : Int))).run Tryz.prog W = .ok (.pointer (some ⟨g, i, none⟩)) W := fun W => strs_index W g nn nc i hlt
      obtain ⟨n, hn, hform⟩ : ∃ n, n < 100 ∧ (x = recN q n ∨ x = markN q n) := by
        have h1 := List.mem_of_getElem? hx
        rw [HLe.out] at h1
        obtain ⟨p, hp, rfl⟩ := List.mem_map.1 h1
        exact HM.out.own p hp
      have i1 : (i : Int) < (nn : Int) := by omega
      have HX := Lib.hid hx
      have HFo := Lib.hid hform
      have HN100 := Lib.hid hn
      obtain ⟨X, hX⟩ : ∃ X : ByteArray, X = ⟨x.toArray⟩ := ⟨_, rfl⟩
      have eX : nm x = .string X := by rw [hX]; rfl
      rw [eX] at hc
      have HEX := Lib.hid eX
      have cb0 : wr.cell? ⟨B, 0, none⟩ = some (.pointer (some ⟨d, 0, none⟩)) := by rw [(HBk.out.keep HBr.out).cell]; rfl
      have cb1 : wr.cell? ⟨B, 1, none⟩ = some (.string Qb) := by rw [(HBk.out.keep HBr.out).cell]; rfl
      clear hx hform hn hX eX hi
      go_wp2_with fail
      refine (HF.out wr).mono ?_
      rintro e w2 ⟨rfl, hb2⟩
      have HB2 := Lib.hid (HBr.out.trans (hb2.mono HBr.out.size))
      clear hb2 cb0 cb1 hc
      go_wp2_with fail
      rw [← HEX.out]
      rcases HFo.out with hr | hr
      · rw [hr]
        refine (num_mark_rec HN100.out w2).mono ?_
        rintro e w3 ⟨rfl, hb3⟩
        have hnext : MarkAt q L f w1 (.int .u64 (m : Int)) (.int .i64 ((i + 1 : Nat) : Int)) w3 := ⟨m, i + 1, rfl, rfl, by have := HNn.out; omega, HMm.out, fun j hj e => by
          by_cases hji : j = i
          · subst hji
            rw [HX.out, hr] at e
            exact (rec_mark HN100.out (Option.some.inj e)).elim
          · exact HJ.out j (by omega) e, HB2.out.trans (hb3.mono HB2.out.size)⟩
        have HNext := Lib.hid hnext
        clear hnext hb3 hr hidx
        go_wp2
        go_roundw
        case rel => exact HNext.out
        case measure => simp [intOf]; omega
      · rw [hr]
        refine (num_mark_mark hq HN100.out w2).mono ?_
        rintro e w3 ⟨rfl, hb3⟩
        have hnf : n = f ∧ 0 < f := by
          have h1 := List.mem_of_getElem? HX.out
          rw [HLe.out, hr] at h1
          obtain ⟨p, hp, he⟩ := List.mem_map.1 h1
          refine (HM.out.mark n HN100.out).1 ?_
          rw [getA_of_mem HM.out.rise (show (markN q n, p.2) ∈ s.now by rw [← he]; exact hp)]
          rfl
        obtain ⟨k, hk⟩ : ∃ k : Int, k = (f : Int) := ⟨_, rfl⟩
        have hmax : ∀ (ts : Array TypeId) (ty : TypeId) (W : World), (Builtin.max_ ts ty #[.int .u64 (m : Int), .int .u64 (n : Int)]).run Tryz.prog W = .ok (.int .u64 k) W := fun ts ty W => by
          have e : (if (n : Int) > (m : Int) then (n : Int) else (m : Int)) = k := by
            rw [hk, hnf.1]
            rcases HMm.out with h | h
            · rw [h, if_pos (by omega)]
            · rw [h, if_neg (by omega)]
          rw [run_max_int2, e]
        have hnext : MarkAt q L f w1 (.int .u64 k) (.int .i64 ((i + 1 : Nat) : Int)) w3 := ⟨f, i + 1, by rw [hk], rfl, by have := HNn.out; omega, .inr rfl, fun j hj e => rfl, HB2.out.trans (hb3.mono HB2.out.size)⟩
        have HNext := Lib.hid hnext
        clear hnext hb3 hr hidx hk hnf
        go_wp2
        go_roundw
        case rel => exact HNext.out
        case measure => simp [intOf]; omega
    · have hmf : m = f := by
        rcases HMm.out with h | h
        · by_cases hf : 0 < f
          · obtain ⟨t, ht⟩ := Option.isSome_iff_exists.1 ((HM.out.mark f HF100.out).2 ⟨rfl, hf⟩)
            have h1 : markN q f ∈ L := by rw [HLe.out]; exact List.mem_map.2 ⟨_, getA_mem ht, rfl⟩
            obtain ⟨j, hj⟩ := List.mem_iff_getElem?.1 h1
            have := (List.getElem?_eq_some_iff.1 hj).1
            exact HJ.out j (by have := HNn.out; omega) hj
          · omega
        · exact h
      subst hmf
      have i1 : ¬ ((i : Int) < (nn : Int)) := by omega
      have HB2 := Lib.hid (HB0.out.trans (HBr.out.mono HB0.out.size))
      clear HStart
      go_wp2
      go_ret
      exact ⟨rfl, HB2.out⟩
end Go.Proofs.YthaggdkfaglgaaaGreatDoor

/- What is no file of the log is swept away. -/
namespace Go.Proofs.YthaggdkfaglgaaaGreatDoor
set_option maxRecDepth 20000
open Go.RowKit Go.Maps DiskMath WalMath Reg

theorem sweep_keep {keep : Nm → Bool} {x : Nm} {l : List Nm} {s : St} (h : keep x = true) : sweepA keep (x :: l) s = sweepA keep l s := by
  show (if _ then _ else _) = _
  rw [if_pos h]
theorem sweep_fail {keep : Nm → Bool} {x : Nm} {l : List Nm} {s : St} (h : keep x = false) (h1 : (s.remove x).1 ≠ 0) : sweepA keep (x :: l) s = s.remove x := by
  show (if _ then _ else _) = _
  rw [if_neg (by rw [h]; decide), if_neg h1]
theorem sweep_next {keep : Nm → Bool} {x : Nm} {l : List Nm} {s : St} (h : keep x = false) (h1 : (s.remove x).1 = 0) : sweepA keep (x :: l) s = sweepA keep l (s.remove x).2 := by
  show (if _ then _ else _) = _
  rw [if_neg (by rw [h]; decide), if_pos h1]

/-- Where sweep stands. -/
def SweepAt (keep : Nm → Bool) (L : List Nm) (s : St) (w1 : World) (T : Nat → Prop) (d c : Nat) (v12 : Value) (wr : World) : Prop :=
  ∃ i c' s1, v12 = .int .i64 ((i : Nat) : Int) ∧ i ≤ L.length ∧ c' ≤ c + i ∧ sweepA keep L s = sweepA keep (L.drop i) s1 ∧ Next w1 T d c' s1 wr

def SweepEnd (keep : Nm → Bool) (L : List Nm) (s : St) (w : World) (T : Nat → Prop) (d c : Nat) (e : Ending) (w' : World) : Prop := Must (sweepA keep L s).1 e ∧ ∃ c', c' ≤ c + L.length ∧ Next w T d c' (sweepA keep L s).2 w'

set_option maxHeartbeats 1000000 in
theorem wsweep_any {w : World} {T : Nat → Prop} {d c : Nat} {s : St} {q : Nm} (hq : q.length ≤ 4) (h : IsDisk w T d c s) (hown : ∀ p ∈ s.now, ∃ n, n < 100 ∧ (p.1 = recN q n ∨ p.1 = markN q n)) {f nx : Nat} (hf : f < 100) (hfew : s.now.length ≤ 200) (hc : c + 200 ≤ 2000) (he : Err w) (hT2 : ¬ T 2) :
    Calls Tryz.prog 104 #[fv (some ⟨d, 0, none⟩) q, .int .u64 f, .int .u64 nx] w (SweepEnd (keepB q f nx) (s.now.map (·.1)) s w T d c) := by
  have H := Lib.hid h
  have HO := Lib.hid hown
  have HE := Lib.hid he
  have HL := Lib.hid hfew
  have HC := Lib.hid hc
  have HF100 := Lib.hid hf
  have HT2 := Lib.hid hT2
  have HF := Lib.hid (front_any (some ⟨d, 0, none⟩) q (front_len hq).2.2)
  have HOf := Lib.hid (fun (x : Nm) (n : Nat) (hn : n < 100) (hx : x = recN q n ∨ x = markN q n) (W : World) (he : Err W) => isOf_any (d := d) hq hn hx hf (nx := nx) W he)
  obtain ⟨Qb, hQb⟩ : ∃ Qb : ByteArray, Qb = ⟨q.toArray⟩ := ⟨_, rfl⟩
  have eQ : nm q = .string Qb := by rw [hQb]; rfl
  unfold fv at HF HOf ⊢
  rw [eQ] at HF HOf ⊢
  obtain ⟨keep, hkeep⟩ : ∃ keep, keep = keepB q f nx := ⟨_, rfl⟩
  rw [← hkeep] at HOf ⊢
  clear h hown he hfew hc hf hQb eQ hkeep hT2
  go_enter Tryz.func104, Tryz.ntmps104
  go_wp2_with fail
  have hb0 : Below w.heap.size w (w.alloc (.cells #[.pointer (some ⟨d, 0, none⟩), .string Qb] 106)) := (Below.refl _ w).alloc (Nat.le_refl _) _
  have hbk : Blk (w.alloc (.cells #[.pointer (some ⟨d, 0, none⟩), .string Qb] 106)) w.heap.size 106 #[.pointer (some ⟨d, 0, none⟩), .string Qb] := Blk.new w _ _
  have hi := H.out.below hb0
  obtain ⟨w0, hw0⟩ : ∃ w0, w0 = w.alloc (.cells #[.pointer (some ⟨d, 0, none⟩), .string Qb] 106) := ⟨_, rfl⟩
  rw [← hw0] at hb0 hbk hi ⊢
  obtain ⟨B, hB⟩ : ∃ B, B = w.heap.size := ⟨_, rfl⟩
  rw [← hB] at hbk ⊢
  have HNT : Hid (¬ T B) := fun hT => by have := H.out.lt B hT; omega
  refine (list_any hi).mono ?_
  rintro e w1 ⟨v, rfl, hnms, hb1⟩
  obtain ⟨na, nn, nc, rfl⟩ := slice_form hnms
  have hnn := nms_len hnms
  have HBk := Lib.hid (hbk.keep hb1)
  have HB0 := Lib.hid (hb0.trans (hb1.mono hb0.size))
  have HI := Lib.hid (hi.below hb1)
  have HNms := Lib.hid hnms
  have HNn := Lib.hid hnn
  have HNA : Hid (∀ g, na = some ⟨g, 0, none⟩ → w0.heap.size ≤ g ∧ g < w1.heap.size) := fun g hg => by
    subst hg
    exact World.ownsRow.lt hnms g rfl
  have HNS : Hid (∀ k, T k → k < w0.heap.size) := hi.lt
  clear hw0 hB hbk hb0 hi hnms hb1 hnn
  obtain ⟨L, hL⟩ : ∃ L, L = s.now.map (·.1) := ⟨_, rfl⟩
  have HSE : Hid (∀ e w', SweepEnd keep L s w T d c e w' → SweepEnd keep (s.now.map (·.1)) s w T d c e w') := fun e w' h => by rw [← hL]; exact h
  rw [← hL] at HNms HNn
  have HLL : Hid (L.length ≤ 200) := by
    have h1 := HL.out
    rw [hL]
    show (s.now.map (·.1)).length ≤ 200
    rw [List.length_map]
    exact h1
  have HLe := Lib.hid hL
  have HEr := Lib.hid (HE.out.below HB0.out)
  clear hL
  have HStart : Hid (SweepAt keep L s w1 T d c (.int .i64 0) w1) := ⟨0, c, s, rfl, Nat.zero_le _, Nat.le_refl _, rfl, Next.refl HI.out⟩
  go_wp2
  go_loopw [12] (fun s12 wr => SweepAt keep L s w1 T d c s12 wr) (fun s12 _ => nn - (intOf s12).toNat)
  case atStart => exact HStart.out
  case round =>
    obtain ⟨i, c', s1, rfl, hi, hc', hsw, hnx⟩ := hrel
    have HC' := Lib.hid hc'
    have HSw := Lib.hid hsw
    have HNx := Lib.hid hnx
    clear hc' hsw hnx
    have hn200 : nn ≤ 200 := by have := HLL.out; have := HNn.out; omega
    by_cases hlt : i < nn
    · obtain ⟨x, hx⟩ : ∃ x, L[i]? = some x := ⟨L[i]'(by have := HNn.out; omega), List.getElem?_eq_getElem _⟩
      have hnr : Nms wr w0.heap.size (.slice na nn nc) L := by
        refine ⟨HNms.out.1, ?_⟩
        rcases HNms.out.2 with h0 | ⟨g, cap, cur, h1, h2, h3, h4⟩
        · exact .inl h0
        · refine .inr ⟨g, cap, cur, h1, h2, ?_, h4⟩
          rw [HNx.out.only.block g (Array.getElem?_eq_some_iff.1 h3).1 fun hT => by have := HNS.out g hT; omega]
          exact h3
      obtain ⟨g, rfl, hc⟩ := Nms.at hnr hx
      have hidx : ∀ W, (Instr.indexAt 189 (.slice (some ⟨g, 0, none⟩) nn nc) (.int .i64 (i : Int))).run Tryz.prog W = .ok (.pointer (some ⟨g, i, none⟩)) W := fun W => strs_index W g nn nc i hlt
      obtain ⟨n, hn, hform⟩ : ∃ n, n < 100 ∧ (x = recN q n ∨ x = markN q n) := by
        have h1 := List.mem_of_getElem? hx
        rw [HLe.out] at h1
        obtain ⟨p, hp, rfl⟩ := List.mem_map.1 h1
        exact HO.out p hp
      have hdrop : L.drop i = x :: L.drop (i + 1) := by
        obtain ⟨h1, rfl⟩ := List.getElem?_eq_some_iff.1 hx
        exact List.drop_eq_getElem_cons h1
      have hxl : x.length ≤ 1000 := by
        rcases hform with rfl | rfl
        · exact (rec_len2 hq hn).1
        · exact (rec_len2 hq hn).2
      have i1 : (i : Int) < (nn : Int) := by omega
      have HDr := Lib.hid hdrop
      have HXl := Lib.hid hxl
      have HPre := Lib.hid (fun W => hasPrefix_any x (frontN q) W)
      rw [pre_own hform] at HPre
      have herr : Err wr := by
        obtain ⟨te, pe, hce⟩ := HEr.out
        refine ⟨te, pe, ?_⟩
        rw [← hce]
        unfold World.cell?
        rw [HNx.out.only.block _ (World.block_lt_of_cell? w1 _ hce) HT2.out]
      have HEw := Lib.hid herr
      have HO2 := Lib.hid (HOf.out x n hn hform)
      obtain ⟨X, hX⟩ : ∃ X : ByteArray, X = ⟨x.toArray⟩ := ⟨_, rfl⟩
      have eX : nm x = .string X := by rw [hX]; rfl
      obtain ⟨Fr, hFr⟩ : ∃ Fr, Fr = nm (frontN q) := ⟨_, rfl⟩
      rw [eX] at hc HPre HO2
      rw [← hFr] at HPre
      have HF1 := HF
      rw [← hFr] at HF1
      have HEX := Lib.hid eX
      have hbkr : Blk wr B 106 #[.pointer (some ⟨d, 0, none⟩), .string Qb] := HNx.out.blk HBk.out HNT.out
      have HBkr := Lib.hid hbkr
      have cb0 : wr.cell? ⟨B, 0, none⟩ = some (.pointer (some ⟨d, 0, none⟩)) := by rw [hbkr.cell]; rfl
      have cb1 : wr.cell? ⟨B, 1, none⟩ = some (.string Qb) := by rw [hbkr.cell]; rfl
      clear hx hform hn hX eX hi hdrop hxl herr hnr hFr hbkr
      go_wp2_with fail
      refine (HF1.out wr).mono ?_
      rintro e w2 ⟨rfl, hb2⟩
      have HB2 := Lib.hid hb2
      have c20 : w2.cell? ⟨B, 0, none⟩ = some (.pointer (some ⟨d, 0, none⟩)) := by rw [(HBkr.out.keep hb2).cell]; rfl
      have c21 : w2.cell? ⟨B, 1, none⟩ = some (.string Qb) := by rw [(HBkr.out.keep hb2).cell]; rfl
      clear hb2 cb0 cb1 hc
      go_wp2_with fail
      refine (HPre.out w2).mono ?_
      rintro e w2' ⟨rfl, rfl⟩
      go_wp2_with fail
      refine (HO2.out w2' (HEw.out.below HB2.out)).mono ?_
      rintro e w3 ⟨rfl, hb3⟩
      have HB3 := Lib.hid (HB2.out.trans (hb3.mono HB2.out.size))
      have HBk3 := Lib.hid (HBkr.out.keep HB3.out)
      clear hb3 c20 c21
      obtain ⟨r, hr⟩ : ∃ r, r = keep x := ⟨_, rfl⟩
      rw [← hr]
      have HR := Lib.hid hr
      clear hr
      cases r with
      | true =>
        have hnext : SweepAt keep L s w1 T d c (.int .i64 ((i + 1 : Nat) : Int)) w3 := ⟨i + 1, c', s1, rfl, by have := HNn.out; omega, by have := HC'.out; omega, by rw [HSw.out, HDr.out]; exact sweep_keep HR.out.symm, HNx.out.post HB3.out⟩
        have HNext := Lib.hid hnext
        clear hnext hidx
        go_wp2
        go_roundw
        case rel => exact HNext.out
        case measure => simp [intOf]; omega
      | false =>
        have c30 : w3.cell? ⟨B, 0, none⟩ = some (.pointer (some ⟨d, 0, none⟩)) := by rw [HBk3.out.cell]; rfl
        have HN3 := Lib.hid (HNx.out.post HB3.out)
        clear hidx
        go_wp2_with fail
        rw [← HEX.out]
        refine (remove_any (n := x) HN3.out.disk (by have := HC'.out; have := HC.out; omega) (by have := HXl.out; omega)).mono ?_
        rintro e w4 ⟨rfl, h4⟩
        have hn4 := HN3.out.trans h4
        obtain ⟨y, hy⟩ : ∃ y, y = (s1.remove x).1 := ⟨_, rfl⟩
        rw [← hy, HEX.out]
        have HY := Lib.hid hy
        have HN4 := Lib.hid hn4
        clear h4 hy hn4 c30
        go_wp2_with fail
        by_cases hy0 : y = 0
        · refine (must_any y _).mono ?_
          rintro e w5 ⟨hm, rfl⟩
          obtain rfl := hm.1 hy0
          have hnext : SweepAt keep L s w1 T d c (.int .i64 ((i + 1 : Nat) : Int)) w5 := ⟨i + 1, c' + 1, _, rfl, by have := HNn.out; omega, by have := HC'.out; omega, by rw [HSw.out, HDr.out]; exact sweep_next HR.out.symm (by rw [← HY.out]; exact hy0), HN4.out⟩
          have HNext := Lib.hid hnext
          clear hnext hm hy0
          go_wp2
          go_roundw
          case rel => exact HNext.out
          case measure => simp [intOf]; omega
        · refine (must_any y _).mono ?_
          rintro e w5 ⟨hm, rfl⟩
          obtain rfl := hm.2 hy0
          have e1 : sweepA keep L s = s1.remove x := by rw [HSw.out, HDr.out]; exact sweep_fail HR.out.symm (by rw [← HY.out]; exact hy0)
          refine ⟨rfl, HSE.out _ _ ⟨?_, c' + 1, by have := HC'.out; have := HNn.out; omega, ?_⟩⟩
          · rw [e1, ← HY.out]; exact hm
          · rw [e1]; exact Next.pre HB0.out H.out.lt HN4.out
    · have i1 : ¬ ((i : Int) < (nn : Int)) := by omega
      have hd : L.drop i = [] := List.drop_eq_nil_of_le (by have := HNn.out; omega)
      have e1 : sweepA keep L s = (0, s1) := by rw [HSw.out, hd]; rfl
      have hfin : SweepEnd keep L s w T d c (.returned (.tuple #[])) wr := ⟨by rw [e1]; exact ⟨fun _ => rfl, fun h => absurd rfl h⟩, c', by have := HC'.out; omega, by rw [e1]; exact Next.pre HB0.out H.out.lt HNx.out⟩
      have HFin := Lib.hid (HSE.out _ _ hfin)
      clear HStart hd e1 hfin
      go_wp2
      go_end0
      exact HFin.out
end Go.Proofs.YthaggdkfaglgaaaGreatDoor

/- A record is read. -/
namespace Go.Proofs.YthaggdkfaglgaaaGreatDoor
set_option maxRecDepth 20000
open Go.RowKit Go.Maps DiskMath WalMath FrameMath BinMath Reg

theorem ask_sat {P : Program} {ops : Array Oper} {tab : List (List Nat)} {fin : List Tmp} {K : World → Prop} {f : Tmp → Fact} {i : Nat} {o : Oper} (hg : guardOk ops f o) (fd : Fact) (hd : ∀ k, o.dst = some k → f k = fd)
    (h : ∀ x W, K W → Told ops f o x W → ∃ v, (execOp (evalBy x) o).run P W = .ok (.value v) W ∧ fd.holds v W) : Asked P ops tab fin K f i o := by
  intro x W hW hk
  obtain ⟨v, h1, h2⟩ := h x W hW hk
  exact ⟨guard_ok hg hk, gives_value h1 ⟨hW, fun k u _ _ hu => hu, fun k hk => by show (f k).holds _ _; rw [hd k hk]; exact h2⟩⟩

theorem one_errs {b : List UInt8} {c : Nat} (h : oneF b = .error c) : c ≠ 0 := by
  unfold oneF pText at h
  cases hp : pNum b with
  | error c' =>
    rw [hp] at h
    simp only [Except.error.injEq] at h
    subst h
    rcases pNum_err hp with h | h
    · rw [h]; decide
    · rw [h]; decide
  | ok p =>
    obtain ⟨n, u⟩ := p
    rw [hp] at h
    simp only at h
    by_cases h1 : 32768 < n
    · rw [if_pos h1] at h
      simp only [Except.error.injEq] at h
      omega
    rw [if_neg h1] at h
    by_cases h2 : b.length - u < n
    · rw [if_pos h2] at h
      simp only [Except.error.injEq] at h
      omega
    rw [if_neg h2] at h
    simp only at h
    by_cases h3 : b.length - (u + n) < 4
    · rw [if_pos h3] at h
      simp only [Except.error.injEq] at h
      omega
    rw [if_neg h3] at h
    split at h
    · cases h
    · simp only [Except.error.injEq] at h
      omega

/-- A slice and a number, as Read answers them. -/
def Two2 (B : Nat) (t : List UInt8) (c : Nat) (u : Value) (W : World) : Prop := ∃ v, u = .tuple #[v, .int .i64 (c : Int)] ∧ Row W B v t

theorem Two2.stays {B : Nat} {t : List UInt8} {c : Nat} {u : Value} {W W' : World} (h : Two2 B t c u W) (hb : Below W.heap.size W W') : Two2 B t c u W' := by
  obtain ⟨v, h1, h2⟩ := h
  exact ⟨v, h1, h2.below hb⟩

theorem row_cap6 {w : World} {B : Nat} {v : Value} {l : List UInt8} {a : Option Addr} {n c : Nat} (h : Row w B v l) (e : v = .slice a n c) : l.length ≤ c := by
  rcases h.2 with ⟨rfl, h0⟩ | ⟨g, cap, cur, rfl, _, _, h1, _⟩
  · omega
  · simp at e; omega

/-- How read ends. -/
def ReadEnd (F : Fs) (q : Nm) (n : Nat) (w : World) (e : Ending) (w' : World) : Prop :=
  Below w.heap.size w w' ∧ ((∃ v t, readF F q n = some t ∧ e = .returned (.tuple #[v, .bool true]) ∧ Row w' w.heap.size v t) ∨ (readF F q n = none ∧ e = .returned (.tuple #[.slice none 0 0, .bool false])))

set_option maxHeartbeats 1000000 in
theorem wread_any {w : World} {T : Nat → Prop} {d c : Nat} {s : St} {q : Nm} (hq : q.length ≤ 4) (h : IsDisk w T d c s) (hoff : s.off = false) {n : Nat} (hn : n < 100) (ht : Tab w) :
    Calls Tryz.prog 103 #[fv (some ⟨d, 0, none⟩) q, .int .u64 n] w (ReadEnd s.now q n w) := by
  have H := Lib.hid h
  have HT := Lib.hid ht
  have HN100 := Lib.hid hn
  have HOff := Lib.hid hoff
  have HFit : Hid (Fit s.now) := by
    obtain ⟨m1, m2, F1, F2, ws, G, hd, -⟩ := h.ex
    exact hd.ok.fitN
  obtain ⟨co, hco⟩ : ∃ co, co = (s.read (recN q n)).1 := ⟨_, rfl⟩
  obtain ⟨tx, htx⟩ : ∃ tx, tx = (s.read (recN q n)).2 := ⟨_, rfl⟩
  have HCo := Lib.hid hco
  have HTx := Lib.hid htx
  clear h ht hn hoff hco htx
  go_enter Tryz.func103, Tryz.ntmps103
  go_upto_region 1 with fail
  have hb0 : Below w.heap.size w (w.alloc (.cells #[.pointer (some ⟨d, 0, none⟩), nm q] 106)) := (Below.refl _ w).alloc (Nat.le_refl _) _
  have hbk : Blk (w.alloc (.cells #[.pointer (some ⟨d, 0, none⟩), nm q] 106)) w.heap.size 106 #[.pointer (some ⟨d, 0, none⟩), nm q] := Blk.new w _ _
  have hi := H.out.below hb0
  obtain ⟨w1, hw1⟩ : ∃ w1, w1 = w.alloc (.cells #[.pointer (some ⟨d, 0, none⟩), nm q] 106) := ⟨_, rfl⟩
  rw [← hw1] at hb0 hbk hi ⊢
  obtain ⟨B, hB⟩ : ∃ B, B = w.heap.size := ⟨_, rfl⟩
  rw [← hB] at hbk ⊢
  have HBk1 := Lib.hid hbk
  have HB0 := Lib.hid hb0
  have HI := Lib.hid hi
  have HBB := Lib.hid hB
  clear hw1 hB hbk hb0 hi
  have hG : ∀ W W' : World, Below w1.heap.size w1 W → Below W.heap.size W W' → Below w1.heap.size w1 W' := fun W W' h h' => h.trans (h'.mono h.size)
  refine region_by [(11, .is (.pointer (some ⟨B, 0, none⟩))), (12, .is (dp d)), (13, .is (fv (some ⟨d, 0, none⟩) q)), (14, .is (nm (frontN q))), (15, .is (.int .u64 (n : Int))), (16, .is (nm (recN q (n)))), (17, (.sat (Two2 w1.heap.size tx co) (fun u W W' h hb => h.stays hb))), (10, (.sat (Two2 w1.heap.size tx co) (fun u W W' h hb => h.stays hb))), (18, .row w1.heap.size tx), (19, .is (.int .i64 (co : Int))), (6, .row w1.heap.size tx), (7, .is (.int .i64 (co : Int)))] [7, 6] (fun W => Below w1.heap.size w1 W) (by kernel_rfl) (by kernel_rfl) (by kernel_rfl) (by kernel_rfl) (by kernel_rfl) ((Below.refl _ _).drew) ?_ ?_
  · refine ⟨?c0, ?c1, ?c2, ?c3, ?c4, ?c5, ?c6, ?c7, ?c8, ?c9, ?c10, ?c11, trivial⟩
    case c0 => exact ask_field (guard_none rfl) _ (.tmp 2) 0 (.pointer (some ⟨B, 0, none⟩)) (.pointer (some ⟨B, 0, none⟩)) rfl rfl (by intro k hk; cases hk; rfl) (fun W => by kernel_rfl)
    case c1 => exact ask_load (guard_none rfl) _ (.tmp 11) (.pointer (some ⟨B, 0, none⟩)) (dp d) rfl rfl (by intro k hk; cases hk; rfl) (fun W hW => load_dp W _ _ (by rw [hW.cell (p := ⟨B, 0, none⟩) HBk1.out.lt, HBk1.out.cell]; rfl))
    case c2 => exact ask_load (guard_none rfl) _ (.tmp 2) (.pointer (some ⟨B, 0, none⟩)) (fv (some ⟨d, 0, none⟩) q) rfl rfl (by intro k hk; cases hk; rfl) (fun W hW => load_files (HBk1.out.keep hW))
    case c3 => exact ask_call hG (guard_none rfl) _ _ _ #[fv (some ⟨d, 0, none⟩) q] (.is (nm (frontN q))) rfl (by kernel_rfl) rfl rfl (by intro k hk; cases hk; rfl) (fun W hW => (front_any _ q (front_len hq).2.2 W).mono fun e w' h => ⟨_, h.1, rfl, h.2⟩)
    case c4 => exact ask_copy (guard_none rfl) (.tmp 1) (.inl rfl) (by intro k hk; cases hk; rfl)
    case c5 => exact ask_call hG (guard_none rfl) _ _ _ #[nm (frontN q), .int .u64 ((n : Nat) : Int)] (.is (nm (recN q (n)))) rfl (by kernel_rfl) rfl rfl (by intro k hk; cases hk; rfl) (fun W hW => (called_any _ (front_len hq).1 (n) HN100.out W).mono fun e w' h => by obtain ⟨h1, rfl⟩ := h; exact ⟨_, h1, rfl, Below.refl _ _⟩)
    case c6 => exact ask_call hG (guard_none rfl) _ _ _ #[dp d, nm (recN q n)] (.sat (Two2 w1.heap.size tx co) (fun u W W' h hb => h.stays hb)) rfl (by kernel_rfl) rfl rfl (by intro k hk; cases hk; rfl) (fun W hW => (read_any (n := recN q n) (HI.out.below hW) (by have := (rec_len2 hq HN100.out).1; omega)).mono fun e w' h => by obtain ⟨v, h1, h2, h3⟩ := h; exact ⟨_, h1, ⟨v, by rw [HCo.out], by rw [HTx.out]; exact row_lower h2 hW.size⟩, h3⟩)
    case c7 => exact ask_copy (guard_none rfl) (.tmp 17) (.inl rfl) (by intro k hk; cases hk; rfl)
    case c8 => exact ask_sat (guard_none rfl) _ (by intro k hk; cases hk; rfl) (fun x W hW hk => by obtain ⟨v, h1, h2⟩ : Two2 w1.heap.size tx co (x 10) W := hk 10 rfl; exact ⟨v, by simp [execOp, evalBy, h1, go_sem], h2⟩)
    case c9 => exact ask_sat (guard_none rfl) _ (by intro k hk; cases hk; rfl) (fun x W hW hk => by obtain ⟨v, h1, h2⟩ : Two2 w1.heap.size tx co (x 10) W := hk 10 rfl; exact ⟨_, by simp [execOp, evalBy, h1, go_sem], rfl⟩)
    case c10 => exact ask_copy (guard_none rfl) (.tmp 18) (.inr rfl) (by intro k hk; cases hk; rfl)
    case c11 => exact ask_copy (guard_none rfl) (.tmp 19) (.inr rfl) (by intro k hk; cases hk; rfl)
  · intro a' W hW hd' hs' hf'
    have t7 : a'.tmps.getD 7 undef = .int .i64 (co : Int) := hf' 7 rfl
    have t6 : Row W w1.heap.size (a'.tmps.getD 6 undef) tx := hf' 6 rfl
    obtain ⟨us, hus, ha'⟩ := act_open 39 a' hs' hd'
    rw [← hus] at t7 t6
    have el : ((List.range 39).map us).toArray = #[us 0, us 1, us 2, us 3, us 4, us 5, us 6, us 7, us 8, us 9, us 10, us 11, us 12, us 13, us 14, us 15, us 16, us 17, us 18, us 19, us 20, us 21, us 22, us 23, us 24, us 25, us 26, us 27, us 28, us 29, us 30, us 31, us 32, us 33, us 34, us 35, us 36, us 37, us 38] := rfl
    rw [el] at ha'
    subst ha'
    obtain ⟨ta, tc, e6⟩ := slice_of_row t6
    have hlc := row_cap6 t6 e6
    rw [e6] at t6
    rw [t7, e6]
    have HRow := Lib.hid t6
    have HLc := Lib.hid hlc
    have HW := Lib.hid hW
    clear hus t7 t6 e6 hlc el hf' hs' hd' hW
    have HB2 := Lib.hid (HB0.out.trans (HW.out.mono HB0.out.size))
    cases hg : getA (recN q n) s.now with
    | none =>
      have e1 : co = 8 := by rw [HCo.out]; unfold St.read; rw [HOff.out, hg]; rfl
      have e2 : readF s.now q n = none := by unfold readF; rw [hg]; rfl
      subst e1
      have HR := Lib.hid e2
      clear hg e2
      go_wp2
      go_ret2
      exact ⟨HB2.out, .inr ⟨HR.out, rfl⟩⟩
    | some u =>
      have e1 : co = 0 := by rw [HCo.out]; unfold St.read; rw [HOff.out, hg]; rfl
      have e3 : tx = u := by rw [HTx.out]; unfold St.read; rw [HOff.out, hg]; rfl
      have e2 : readF s.now q n = wholeF tx := by unfold readF; rw [hg, e3]; rfl
      have e4 : tx.length ≤ 8388608 := by rw [e3]; exact (HFit.out _ (getA_mem hg)).2
      subst e1
      have HR := Lib.hid e2
      have HTl := Lib.hid e4
      clear hg e2 e3 e4
      go_wp2_with fail
      refine (must_any 0 _).mono ?_
      rintro e w3 ⟨hm, rfl⟩
      obtain rfl := hm.1 rfl
      clear hm
      go_wp2_with fail
      refine (one_any ta tx.length tc tx w3 HRow.out.bys rfl HLc.out (by have := HTl.out; omega) (HT.out.below (Nat.le_refl _) HB2.out)).mono ?_
      rintro e w4 ⟨hb4, h4⟩
      have HB4 := Lib.hid (HB2.out.trans (hb4.mono HB2.out.size))
      have hle : w.heap.size ≤ w3.heap.size := HB2.out.size
      have HLe := Lib.hid hle
      clear hb4 hle
      cases ho : oneF tx with
      | error c' =>
        rw [ho] at h4
        simp only at h4
        subst h4
        have hc0 := one_errs ho
        have hw : wholeF tx = none := by unfold wholeF; rw [ho]
        have HN := Lib.hid (HR.out.trans hw)
        have i1 : ((c' : Int) == 0) = false := by
          rw [Bool.eq_false_iff, ne_eq, beq_iff_eq]
          omega
        clear hc0 hw ho
        go_wp2
        go_ret2
        exact ⟨HB4.out, .inr ⟨HN.out, rfl⟩⟩
      | ok p =>
        obtain ⟨t, k⟩ := p
        rw [ho] at h4
        simp only at h4
        obtain ⟨v, rfl, hv⟩ := h4
        have HV := Lib.hid (row_lower hv HLe.out)
        by_cases hk : k = tx.length
        · have hw : wholeF tx = some t := by unfold wholeF; rw [ho]; simp [hk]
          have HN := Lib.hid (HR.out.trans hw)
          subst hk
          clear hw ho hv
          go_wp2
          go_ret2
          exact ⟨HB4.out, .inl ⟨v, t, HN.out, rfl, HV.out⟩⟩
        · have hw : wholeF tx = none := by unfold wholeF; rw [ho]; simp [hk]
          have HN := Lib.hid (HR.out.trans hw)
          have i1 : ((k : Int) == (tx.length : Int)) = false := by
            rw [Bool.eq_false_iff, ne_eq, beq_iff_eq]
            omega
          clear hw ho hv hk
          go_wp2
          go_ret2
          exact ⟨HB4.out, .inr ⟨HN.out, rfl⟩⟩
end Go.Proofs.YthaggdkfaglgaaaGreatDoor

/- A log in the program's memory: its list, its blocks; First, Next, isOver. -/
namespace Go.Proofs.YthaggdkfaglgaaaGreatDoor
set_option maxRecDepth 20000
open Go.RowKit Go.Maps DiskMath WalMath FrameMath Reg

/-- A list of slices of the program's own, which may begin inside of its block. -/
def ListO (w : World) (v : Value) (us : List Value) : Prop :=
  (v = .slice none 0 0 ∧ us = []) ∨
  ∃ g o cap cur, v = .slice (some ⟨g, o, none⟩) us.length cap ∧ w.heap[g]? = some (.cells cur 27 (0, 0)) ∧ us.length ≤ cap ∧ o + cap ≤ cur.size ∧ ∀ (i : Nat) (u : Value), us[i]? = some u → cur[o + i]? = some u

theorem ListO.lt {w : World} {v : Value} {us : List Value} (h : ListO w v us) {k : Nat} (hk : v.ownBlock = some k) : k < w.heap.size := by
  rcases h with ⟨rfl, _⟩ | ⟨g, o, cap, cur, rfl, hg, _⟩
  · simp [Value.ownBlock] at hk
  · simp [Value.ownBlock] at hk
    subst hk
    exact (Array.getElem?_eq_some_iff.1 hg).1

theorem ListO.same {w w' : World} {v : Value} {us : List Value} (h : ListO w v us) (hs : ∀ k, v.ownBlock = some k → w'.heap[k]? = w.heap[k]?) : ListO w' v us := by
  rcases h with h | ⟨g, o, cap, cur, rfl, hg, h1⟩
  · exact .inl h
  · exact .inr ⟨g, o, cap, cur, rfl, by rw [hs g rfl]; exact hg, h1⟩

theorem ListO.form {w : World} {v : Value} {us : List Value} (h : ListO w v us) : ∃ a c, v = .slice a us.length c ∧ us.length ≤ c := by
  rcases h with ⟨rfl, rfl⟩ | ⟨g, o, cap, cur, rfl, hg, h1, _⟩
  · exact ⟨none, 0, rfl, Nat.le_refl _⟩
  · exact ⟨_, _, rfl, h1⟩

theorem ListO.at_ {w : World} {v : Value} {us : List Value} (h : ListO w v us) {i : Nat} {u : Value} (hi : us[i]? = some u) : ∃ g o c, v = .slice (some ⟨g, o, none⟩) us.length c ∧ w.cell? ⟨g, o + i, none⟩ = some u := by
  rcases h with ⟨rfl, rfl⟩ | ⟨g, o, cap, cur, rfl, hg, h1, h2, h4⟩
  · simp at hi
  · refine ⟨g, o, cap, rfl, ?_⟩
    rw [cell_of_heap hg]
    exact h4 i u hi

/-- The cells of a log. -/
abbrev logC (d : Nat) (q : Nm) (f : Nat) (v : Value) (over : Bool) : Array Value := #[dp d, nm q, .int .u64 (f : Int), v, .bool over]

/-- A log whose blocks are among U. -/
structure Lg (w : World) (U : Nat → Prop) (l d : Nat) (q : Nm) (f : Nat) (R : List (List UInt8)) (over : Bool) : Prop where
  ex : ∃ (v : Value) (us : List Value), Blk w l 108 (logC d q f v over) ∧ ListO w v us ∧ us.length = R.length ∧ (∀ (i : Nat) (u : Value) (t : List UInt8), us[i]? = some u → R[i]? = some t → Row w 0 u t) ∧ U l ∧ (∀ k, v.ownBlock = some k → U k) ∧ (∀ u ∈ us, ∀ k, u.ownBlock = some k → U k)
  lt : ∀ k, U k → k < w.heap.size
  lim : f + R.length ≤ 99

theorem Lg.same {w w' : World} {U : Nat → Prop} {l d : Nat} {q : Nm} {f : Nat} {R : List (List UInt8)} {over : Bool} (h : Lg w U l d q f R over) (hs : ∀ k, U k → w'.heap[k]? = w.heap[k]?) (hl : w.heap.size ≤ w'.heap.size) : Lg w' U l d q f R over := by
  obtain ⟨v, us, h1, h2, h3, h4, h5, h6, h7⟩ := h.ex
  refine ⟨⟨v, us, ?_, h2.same fun k hk => hs k (h6 k hk), h3, fun i u t hu ht => ownRow_same (h4 i u t hu ht) fun k hk => hs k (h7 u (List.mem_of_getElem? hu) k hk), h5, h6, h7⟩, fun k hk => Nat.lt_of_lt_of_le (h.lt k hk) hl, h.lim⟩
  unfold Blk
  rw [hs l h5]
  exact h1

theorem Lg.below {w w' : World} {U : Nat → Prop} {l d : Nat} {q : Nm} {f : Nat} {R : List (List UInt8)} {over : Bool} (h : Lg w U l d q f R over) (hb : Below w.heap.size w w') : Lg w' U l d q f R over := h.same (fun k hk => hb.block k (h.lt k hk)) hb.size

theorem Lg.wide {w : World} {U U' : Nat → Prop} {l d : Nat} {q : Nm} {f : Nat} {R : List (List UInt8)} {over : Bool} (h : Lg w U l d q f R over) (hU : ∀ k, U k → U' k) (hlt : ∀ k, U' k → k < w.heap.size) : Lg w U' l d q f R over := by
  obtain ⟨v, us, h1, h2, h3, h4, h5, h6, h7⟩ := h.ex
  exact ⟨⟨v, us, h1, h2, h3, h4, hU _ h5, fun k hk => hU k (h6 k hk), fun u hu k hk => hU k (h7 u hu k hk)⟩, hlt, h.lim⟩

/-- A disk and a log on it, their blocks among S. -/
structure Pr (w : World) (S : Nat → Prop) (d l c : Nat) (q : Nm) (s : St) (f : Nat) (R : List (List UInt8)) (over : Bool) : Prop where
  ex : ∃ (T U : Nat → Prop), IsDisk w T d c s ∧ Lg w U l d q f R over ∧ (∀ k, T k → S k) ∧ (∀ k, U k → S k) ∧ (∀ k, T k → ¬ U k)
  lt : ∀ k, S k → k < w.heap.size

theorem Pr.same {w w' : World} {S : Nat → Prop} {d l c : Nat} {q : Nm} {s : St} {f : Nat} {R : List (List UInt8)} {over : Bool} (h : Pr w S d l c q s f R over) (hs : ∀ k, S k → w'.heap[k]? = w.heap[k]?) (hl : w.heap.size ≤ w'.heap.size) : Pr w' S d l c q s f R over := by
  obtain ⟨T, U, h1, h2, h3, h4, h5⟩ := h.ex
  exact ⟨⟨T, U, h1.same (fun k hk => hs k (h3 k hk)) hl, h2.same (fun k hk => hs k (h4 k hk)) hl, h3, h4, h5⟩, fun k hk => Nat.lt_of_lt_of_le (h.lt k hk) hl⟩

theorem Pr.below {w w' : World} {S : Nat → Prop} {d l c : Nat} {q : Nm} {s : St} {f : Nat} {R : List (List UInt8)} {over : Bool} (h : Pr w S d l c q s f R over) (hb : Below w.heap.size w w') : Pr w' S d l c q s f R over := h.same (fun k hk => hb.block k (h.lt k hk)) hb.size

theorem Pr.wide {w : World} {S S' : Nat → Prop} {d l c : Nat} {q : Nm} {s : St} {f : Nat} {R : List (List UInt8)} {over : Bool} (h : Pr w S d l c q s f R over) (hS : ∀ k, S k → S' k) (hlt : ∀ k, S' k → k < w.heap.size) : Pr w S' d l c q s f R over := by
  obtain ⟨T, U, h1, h2, h3, h4, h5⟩ := h.ex
  exact ⟨⟨T, U, h1, h2, fun k hk => hS k (h3 k hk), fun k hk => hS k (h4 k hk), h5⟩, hlt⟩

theorem Pr.tight {w : World} {S : Nat → Prop} {d l c c' : Nat} {q : Nm} {s : St} {f : Nat} {R : List (List UInt8)} {over : Bool} (h : Pr w S d l c q s f R over) (hc : s.sure.length + s.ops.length ≤ c') (h2 : c' ≤ 2000) : Pr w S d l c' q s f R over := by
  obtain ⟨T, U, h1, h3⟩ := h.ex
  exact ⟨⟨T, U, h1.tight hc h2, h3⟩, h.lt⟩

/-- What a call leaves of a disk and a log on it. -/
structure PNx (w : World) (S : Nat → Prop) (d l c : Nat) (q : Nm) (s : St) (f : Nat) (R : List (List UInt8)) (over : Bool) (w' : World) : Prop where
  pr : Pr w' (more w S w') d l c q s f R over
  only : OnlyS S w w'

theorem PNx.refl {w : World} {S : Nat → Prop} {d l c : Nat} {q : Nm} {s : St} {f : Nat} {R : List (List UInt8)} {over : Bool} (h : Pr w S d l c q s f R over) : PNx w S d l c q s f R over w :=
  ⟨h.wide (fun k hk => .inl hk) fun k hk => by
    rcases hk with hk | hk
    · exact h.lt k hk
    · exact hk.2, OnlyS.refl _ _⟩

theorem PNx.pre {w w1 w2 : World} {S : Nat → Prop} {d l c : Nat} {q : Nm} {s : St} {f : Nat} {R : List (List UInt8)} {over : Bool} (hb : Below w.heap.size w w1) (hlt : ∀ k, S k → k < w.heap.size) (h : PNx w1 S d l c q s f R over w2) : PNx w S d l c q s f R over w2 :=
  ⟨h.pr.wide (fun k hk => by
    have := hb.size
    rcases hk with hk | hk
    · exact .inl hk
    · exact .inr ⟨by omega, hk.2⟩) fun k hk => by
    have := hb.size
    have := h.only.size
    rcases hk with hk | hk
    · have := hlt k hk; omega
    · exact hk.2, (OnlyS.of_below (S := S) hb fun k hk _ => hk).trans h.only⟩

theorem PNx.post {w w1 w2 : World} {S : Nat → Prop} {d l c : Nat} {q : Nm} {s : St} {f : Nat} {R : List (List UInt8)} {over : Bool} (h : PNx w S d l c q s f R over w1) (hb : Below w1.heap.size w1 w2) : PNx w S d l c q s f R over w2 :=
  ⟨(h.pr.below hb).wide (fun k hk => by
    have := hb.size
    rcases hk with hk | hk
    · exact .inl hk
    · exact .inr ⟨hk.1, by omega⟩) fun k hk => by
    have := hb.size
    rcases hk with hk | hk
    · have := h.pr.lt k (.inl hk); omega
    · exact hk.2, h.only.trans (OnlyS.of_below (S := S) hb fun k hk _ => hk)⟩

/-- What attempt leaves, told of the disk and the log. -/
theorem tried_next {w : World} {S : Nat → Prop} {d l c code : Nat} {q : Nm} {s : St} {f : Nat} {R : List (List UInt8)} {e : Ending} {w' : World} (hS : ∀ k, S k → k < w.heap.size)
    (h : WTried w l (fun c0 w2 => c0 = code ∧ ∃ w1, Below w.heap.size w w1 ∧ w1.heap.size = w.heap.size + 1 ∧ PNx w1 S d l c q s f R false w2) e w') :
    e = .returned (.int .i64 (said code : Int)) ∧ PNx w S d l c q s f R (decide (code ≠ 0) && decide (code ≠ 7)) w' := by
  obtain ⟨c0, w2, ⟨rfl, w1, hb, hs1, hp⟩, rfl, hsz, ho, hover⟩ := h
  refine ⟨rfl, ?_⟩
  have hpr := hp.pr
  obtain ⟨T, U, hd, hl, hT, hU, hTU⟩ := hpr.ex
  obtain ⟨v, us, l1, l2, l3, l4, l5, l6, l7⟩ := hl.ex
  have hown : ∀ k, (more w1 S w2) k → k ≠ w.heap.size := fun k hk => by
    rcases hk with hk | hk
    · have := hS k hk; omega
    · omega
  have hkeep : ∀ k, (more w1 S w2) k → k ≠ l → w'.heap[k]? = w2.heap[k]? := fun k hk hkl => by
    have h1 := hown k hk
    refine ho.block k (hpr.lt k hk) ?_
    rintro (h | ⟨_, _, h⟩)
    · exact h1 h
    · exact hkl h
  have hTl : ∀ k, T k → k ≠ l := fun k hk e => hTU k hk (e ▸ l5)
  have honly : OnlyS S w w' := by
    have h1 : OnlyS S w w2 := (OnlyS.of_below (S := S) hb fun k hk _ => hk).trans hp.only
    refine h1.then ho fun k hk hk2 => ?_
    rcases hk2 with h | ⟨_, _, rfl⟩
    · omega
    · rcases hU k l5 with h | h
      · exact h
      · omega
  have hd' : IsDisk w' T d c s := hd.same (fun k hk => hkeep k (hT k hk) (hTl k hk)) ho.size
  have hlt' : ∀ k, (more w S w') k → k < w'.heap.size := fun k hk => by
    rcases hk with hk | hk
    · exact Nat.lt_of_lt_of_le (hS k hk) honly.size
    · exact hk.2
  have hmore : ∀ k, (more w1 S w2) k → (more w S w') k := fun k hk => by
    have := ho.size
    rcases hk with hk | hk
    · exact .inl hk
    · exact .inr ⟨by omega, by omega⟩
  refine ⟨⟨⟨T, U, hd', ?_, fun k hk => hmore k (hT k hk), fun k hk => hmore k (hU k hk), hTU⟩, hlt'⟩, honly⟩
  by_cases hc : c0 ≠ 0 ∧ c0 ≠ 7
  · have e1 : (decide (c0 ≠ 0) && decide (c0 ≠ 7)) = true := by simp [hc.1, hc.2]
    rw [e1]
    have h1 := hover hc.1 hc.2 _ l1
    have hvl : ∀ k, v.ownBlock = some k → k ≠ l := fun k hk e => by
      rcases l2 with ⟨rfl, _⟩ | ⟨g, o, cap, cur, rfl, hg, _⟩
      · simp [Value.ownBlock] at hk
      · simp [Value.ownBlock] at hk
        subst hk
        subst e
        unfold Blk at l1
        rw [hg] at l1
        simp at l1
    refine ⟨⟨v, us, h1, l2.same fun k hk => hkeep k (hU k (l6 k hk)) (hvl k hk), l3, fun i u t hu ht => ownRow_same (l4 i u t hu ht) fun k hk => hkeep k (hU k (l7 u (List.mem_of_getElem? hu) k hk)) fun e => ?_, l5, l6, l7⟩, fun k hk => Nat.lt_of_lt_of_le (hl.lt k hk) ho.size, hl.lim⟩
    exact row_ne_blk (l4 i u t hu ht) l1 (by decide) (by rw [hk, e])
  · have e1 : (decide (c0 ≠ 0) && decide (c0 ≠ 7)) = false := by
      by_cases h0 : c0 = 0
      · simp [h0]
      · by_cases h7 : c0 = 7
        · simp [h7]
        · exact absurd ⟨h0, h7⟩ hc
    rw [e1]
    refine hl.same (fun k hk => ?_) ho.size
    have h1 := hown k (hU k hk)
    refine ho.block k (hl.lt k hk) ?_
    rintro (h | ⟨h0, h7, _⟩)
    · exact h1 h
    · exact hc ⟨h0, h7⟩

/-- First, Next, isOver of a log. -/
theorem wfirst_any {w : World} {l d : Nat} {q : Nm} {f : Nat} {v : Value} {over : Bool} (h : Blk w l 108 (logC d q f v over)) : Calls Tryz.prog 29 #[.pointer (some ⟨l, 0, none⟩)] w fun e w' => e = .returned (.int .u64 (f : Int)) ∧ w' = w := by
  have c2 : w.cell? ⟨l, 2, none⟩ = some (.int .u64 (f : Int)) := by rw [h.cell]; rfl
  clear h
  go_enter Tryz.func29, Tryz.ntmps29
  go_wp2
  go_ret
  exact ⟨rfl, rfl⟩

theorem wover_any {w : World} {l d : Nat} {q : Nm} {f : Nat} {v : Value} {over : Bool} (h : Blk w l 108 (logC d q f v over)) : Calls Tryz.prog 52 #[.pointer (some ⟨l, 0, none⟩)] w fun e w' => e = .returned (.bool over) ∧ w' = w := by
  have c4 : w.cell? ⟨l, 4, none⟩ = some (.bool over) := by rw [h.cell]; rfl
  clear h
  go_enter Tryz.func52, Tryz.ntmps52
  go_wp2
  go_ret
  exact ⟨rfl, rfl⟩

theorem wnext_any {w : World} {l d : Nat} {q : Nm} {f : Nat} {a : Option Addr} {n c : Nat} {over : Bool} (h : Blk w l 108 (logC d q f (.slice a n c) over)) (hn : f + n ≤ 999) : Calls Tryz.prog 30 #[.pointer (some ⟨l, 0, none⟩)] w fun e w' => e = .returned (.int .u64 ((f + n : Nat) : Int)) ∧ ∃ m, w' = w.drewN m := by
  have c2 : w.cell? ⟨l, 2, none⟩ = some (.int .u64 (f : Int)) := by rw [h.cell]; rfl
  have c3 : w.cell? ⟨l, 3, none⟩ = some (.slice a n c) := by rw [h.cell]; rfl
  have e1 : IntKind.u64.wrap (n : Int) = (n : Int) := u64_small n (by omega)
  obtain ⟨m, hm⟩ : ∃ m, m = f + n := ⟨_, rfl⟩
  have e2 : IntKind.u64.wrap ((f : Int) + (n : Int)) = (m : Int) := by rw [hm]; exact u64_small (f + n) (by omega)
  rw [← hm]
  clear h hm hn
  go_enter Tryz.func30, Tryz.ntmps30
  go_wp2
  go_quiet (fail)
  go_wp2
  go_ret
  exact ⟨rfl, _, rfl⟩
end Go.Proofs.YthaggdkfaglgaaaGreatDoor

