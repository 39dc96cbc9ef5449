/- replace. -/
import Derived.Test.YtboongdoggggoaaSwapNames
namespace Go.Proofs.Ytboongdoggggoaa
set_option maxRecDepth 20000
open Go.RowKit Go.Maps DiskMath SwapMath Reg

theorem IsDisk.tight {w : World} {T : Nat → Prop} {d c c' : Nat} {s : St} (h : IsDisk w T d c s) (hc : s.sure.length + s.ops.length ≤ c') (h2 : c' ≤ 2000) : IsDisk w T d c' s := by
  obtain ⟨m1, m2, F1, F2, ws, G, hd, ht⟩ := h.ex
  exact ⟨⟨m1, m2, F1, F2, ws, G, { hd with ok := { hd.ok with few := hc }, small := h2 }, ht⟩, h.lt⟩

theorem IsDisk.wide {w : World} {T T' : Nat → Prop} {d c : Nat} {s : St} (h : IsDisk w T d c s) (hT : ∀ k, T k → T' k) (hlt : ∀ k, T' k → k < w.heap.size) : IsDisk w T' d c s := by
  obtain ⟨m1, m2, F1, F2, ws, G, hd, ht⟩ := h.ex
  exact ⟨⟨m1, m2, F1, F2, ws, G, hd, fun k hk => hT k (ht k hk)⟩, hlt⟩

theorem Next.pre {w w1 w2 : World} {T : Nat → Prop} {d c : Nat} {s : St} (hb : Below w.heap.size w w1) (hlt : ∀ k, T k → k < w.heap.size) (h : Next w1 T d c s w2) : Next w T d c s w2 :=
  ⟨h.disk.wide (fun k hk => by
    have := hb.size
    rcases hk with hk | hk
    · exact .inl hk
    · exact .inr ⟨by omega, hk.2⟩) fun k hk => by
    have := hb.size
    have := h.only.size
    rcases hk with hk | hk
    · have := hlt k hk; omega
    · exact hk.2, (OnlyS.of_below (S := T) hb fun k hk _ => hk).trans h.only⟩

theorem Next.post {w w1 w2 : World} {T : Nat → Prop} {d c : Nat} {s : St} (h : Next w T d c s w1) (hb : Below w1.heap.size w1 w2) : Next w T d c s w2 :=
  ⟨(h.disk.below hb).wide (fun k hk => by
    have := hb.size
    rcases hk with hk | hk
    · exact .inl hk
    · exact .inr ⟨hk.1, by omega⟩) fun k hk => by
    have := hb.size
    rcases hk with hk | hk
    · have := h.disk.lt k (.inl hk); omega
    · exact hk.2, h.only.trans (OnlyS.of_below (S := T) hb fun k hk _ => hk)⟩

/-- The blocks of what was there, and new ones. -/
abbrev more (w : World) (T : Nat → Prop) (w1 : World) : Nat → Prop := fun k => T k ∨ (w.heap.size ≤ k ∧ k < w1.heap.size)

theorem Next.trans {w w1 w2 : World} {T : Nat → Prop} {d c1 c2 : Nat} {s1 s2 : St} (h1 : Next w T d c1 s1 w1) (h2 : Next w1 (more w T w1) d c2 s2 w2) : Next w T d c2 s2 w2 :=
  ⟨h2.disk.wide (fun k hk => by
    have := h1.only.size
    have := h2.only.size
    rcases hk with (hk | hk) | hk
    · exact .inl hk
    · exact .inr ⟨hk.1, by omega⟩
    · exact .inr ⟨by omega, hk.2⟩) fun k hk => by
    have := h2.only.size
    rcases hk with hk | hk
    · have := h1.disk.lt k (.inl hk); omega
    · exact hk.2, h1.only.then h2.only fun k hk hs => by
    rcases hs with hs | hs
    · exact hs
    · omega⟩

theorem Next.blk {w1 w2 : World} {T : Nat → Prop} {d c : Nat} {s : St} {B : Nat} {t : TypeId} {cs : Array Value} (h : Next w1 T d c s w2) (hb : Blk w1 B t cs) (hT : ¬ T B) : Blk w2 B t cs := by
  unfold Blk
  rw [h.only.block B hb.lt hT]
  exact hb

theorem more_not {w w1 : World} {T : Nat → Prop} {k : Nat} (h : ¬ T k) (hk : k < w.heap.size) : ¬ more w T w1 k := by
  rintro (h1 | h1)
  · exact h h1
  · omega

theorem Next.isFile {w1 w2 : World} {T : Nat → Prop} {d c : Nat} {s : St} {x d' : Nat} {q : Nm} {v : Value} {t o : Bool} (h : Next w1 T d c s w2) (hb : IsFile w1 x d' q v t o) (hT : ¬ T x) : IsFile w2 x d' q v t o := Next.blk h hb hT

theorem ne_zero {c : Nat} (h : c ≠ 0) : ((c : Int) != 0) = true := by simp; omega
theorem eq_zero {c : Nat} (h : c ≠ 0) : ((c : Int) == 0) = false := by simp; omega

set_option maxHeartbeats 2000000 in
theorem replace_any {w : World} {T : Nat → Prop} {x d c : Nat} {q : Nm} {s : St} {v0 : Value} {t0 o : Bool} {b : List UInt8} {ta : Option Addr} {tn tc : Nat} (hq : wn q) (hD : IsDisk w T d c s) (hC : IsFile w x d q v0 t0 o) (hx : ¬ T x) (ht : Bys w (.slice ta tn tc) b) (htn : b.length = tn) (hn : tn ≤ 4194304) (hc : c + 3 ≤ 2000) :
    Calls Try.prog 110 #[.pointer (some ⟨x, 0, none⟩), .slice ta tn tc] w fun e w' => e = .returned (.int .i64 ((swA q s b).1 : Int)) ∧ Next w T d (c + 3) (swA q s b).2 w' := by
  obtain ⟨x1, s1, x2, s2, x3, s3, x4, s4, x5, s5, e1, e2, e3, e4, e5, e6⟩ := swA_steps q s b
  have hb1 : q.length ≤ 1000 := by have := hq.2.1; omega
  have hb2 : (newN q).length ≤ 9223372036854775807 := by have := (new_len hq).2; omega
  have hb3 : (nowN q).length ≤ 9223372036854775807 := by have := (now_len hq).2; omega
  have HW1 : Hid (∀ W, Below w.heap.size w W → Calls Try.prog 130 #[dp d, nm (newN q), .int .i64 0, .slice ta tn tc] W fun e w' => e = .returned (.int .i64 (x1 : Int)) ∧ Next W T d (c + 1) s1 w') := fun W hW => by
    have h := write_any (hD.below hW) (by omega) hb2 (a := 0) (by omega) (ht.below (Nat.le_refl _) hW) htn hn
    rw [e1] at h
    exact h
  have HCt : Hid (∀ (W : World) (T' : Nat → Prop), IsDisk W T' d (c + 1) s1 → Calls Try.prog 131 #[dp d, nm (newN q), .int .i64 (tn : Int)] W fun e w' => e = .returned (.int .i64 (x2 : Int)) ∧ Next W T' d (c + 2) s2 w') := fun W T' hh => by
    have h := cut_any hh (by omega) hb2 (k := (tn : Int)) (by omega)
    rw [← htn] at h ⊢
    rw [e2] at h
    exact h
  have HS1 : Hid (∀ (W : World) (T' : Nat → Prop), IsDisk W T' d (c + 2) s2 → Calls Try.prog 132 #[dp d] W fun e w' => e = .returned (.int .i64 (x3 : Int)) ∧ Next W T' d (c + 2) s3 w') := fun W T' hh => by
    have h := sync_any hh
    rw [e3] at h
    exact h
  have HR1 : Hid (∀ (W : World) (T' : Nat → Prop), IsDisk W T' d (c + 2) s3 → Calls Try.prog 133 #[dp d, nm (newN q), nm (nowN q)] W fun e w' => e = .returned (.int .i64 (x4 : Int)) ∧ Next W T' d (c + 3) s4 w') := fun W T' hh => by
    have h := rename_any hh (by omega) hb2 hb3
    rw [e4] at h
    exact h
  have HS2 : Hid (∀ (W : World) (T' : Nat → Prop), IsDisk W T' d (c + 3) s4 → Calls Try.prog 132 #[dp d] W fun e w' => e = .returned (.int .i64 (x5 : Int)) ∧ Next W T' d (c + 3) s5 w') := fun W T' hh => by
    have h := sync_any hh
    rw [e5] at h
    exact h
  obtain ⟨Y, Z, hYZ⟩ : ∃ Y Z, (Y, Z) = swA q s b := ⟨_, _, rfl⟩
  rw [← hYZ] at e6 ⊢
  have HY := Lib.hid e6
  have HD := Lib.hid hD
  have HC := Lib.hid hC
  have HX := Lib.hid hx
  have HQ := Lib.hid hb1
  have HCc := Lib.hid hc
  obtain ⟨A, hA⟩ : ∃ A, nm (newN q) = .string A := ⟨_, rfl⟩
  obtain ⟨B, hB⟩ : ∃ B, nm (nowN q) = .string B := ⟨_, rfl⟩
  have HBe : Hid (∀ W, IsFile W x d q v0 t0 o → Calls Try.prog 129 #[.pointer (some ⟨x, 0, none⟩)] W fun e w' => e = .returned (.string A) ∧ w' = W) := fun W hW => by rw [← hA]; exact beside_any hW hb1
  have HPl : Hid (∀ W, IsFile W x d q v0 t0 o → Calls Try.prog 108 #[.pointer (some ⟨x, 0, none⟩)] W fun e w' => e = .returned (.string B) ∧ w' = W) := fun W hW => by rw [← hB]; exact place_any hW hb1
  rw [hA] at HW1 HR1 HCt
  rw [hB] at HR1
  have hGw : ∀ W W' : World, Below w.heap.size w W → Below W.heap.size W W' → Below w.heap.size w W' := fun W W' h h' => h.trans (h'.mono h.size)
  simp only
  clear hq hD hC hx ht htn hn hc e1 e2 e3 e4 e5 e6 hb1 hb2 hb3 hYZ hA hB
  go_enter Try.func110, Try.ntmps110
  go_upto_region 1 with fail
  refine region_tails_by 7 [(9, .is (.pointer (some ⟨x, 0, none⟩))), (10, .is (.pointer (some ⟨x, 0, none⟩))), (11, .is (.pointer (some ⟨x, 0, none⟩))), (12, .is (.pointer (some ⟨d, 0, none⟩))), (13, .is (.pointer (some ⟨x, 0, none⟩))), (14, .is (.string A)), (15, .is (.slice ta tn tc))] [0, 1, 12, 14, 15] (fun W => Below w.heap.size w W) (by kernel_rfl) (by kernel_rfl) (by kernel_rfl) (by kernel_rfl) (by kernel_rfl) (by decide) (by kernel_rfl) (by kernel_rfl) ((Below.refl _ _).drew) ?_ ?_
  · refine ⟨?c0, ?c1, ?c2, ?c3, ?c4, ?c5, ?c6, trivial⟩
    case c0 => exact ask_copy (guard_none rfl) (.tmp 0) (.inl rfl) (by intro k hk; cases hk; rfl)
    case c1 => exact ask_exec (guard_none rfl) (.pointer (some ⟨x, 0, none⟩)) rfl rfl (by intro k hk; cases hk; rfl) (fun W hW => by kernel_rfl)
    case c2 => exact ask_field (guard_none rfl) _ (.tmp 10) 0 (.pointer (some ⟨x, 0, none⟩)) (.pointer (some ⟨x, 0, none⟩)) rfl rfl (by intro k hk; cases hk; rfl) (fun W => by kernel_rfl)
    case c3 => exact ask_load (guard_none rfl) _ (.tmp 11) (.pointer (some ⟨x, 0, none⟩)) (.pointer (some ⟨d, 0, none⟩)) rfl rfl (by intro k hk; cases hk; rfl) (fun W hW => load_dp W _ _ (by rw [hW.cell (p := ⟨x, 0, none⟩) (Blk.lt HC.out), (Blk.cell HC.out)]; rfl))
    case c4 => exact ask_copy (guard_none rfl) (.tmp 0) (.inl rfl) (by intro k hk; cases hk; rfl)
    case c5 => exact ask_call hGw (guard_none rfl) _ _ _ #[.pointer (some ⟨x, 0, none⟩)] (.is (.string A)) rfl (by kernel_rfl) rfl rfl (by intro k hk; cases hk; rfl) (fun W hW => (HBe.out W (HC.out.below hW)).mono fun e w' h => by obtain ⟨h1, rfl⟩ := h; exact ⟨_, h1, rfl, Below.refl _ _⟩)
    case c6 => exact ask_copy (guard_none rfl) (.tmp 1) (.inl rfl) (by intro k hk; cases hk; rfl)
  · intro af W1 hW hd' hs' hf'
    have t0 : af.tmps.getD 0 undef = .pointer (some ⟨x, 0, none⟩) := hf' 0 rfl
    have t1 : af.tmps.getD 1 undef = .slice ta tn tc := hf' 1 rfl
    have t12 : af.tmps.getD 12 undef = .pointer (some ⟨d, 0, none⟩) := hf' 12 rfl
    have t14 : af.tmps.getD 14 undef = .string A := hf' 14 rfl
    have t15 : af.tmps.getD 15 undef = .slice ta tn tc := hf' 15 rfl
    obtain ⟨us, hus, haf⟩ := act_open 57 af hs' hd'
    rw [← hus] at t0 t1 t12 t14 t15
    have el : ((List.range 57).map us).toArray = #[us 0, us 1, us 2, us 3, us 4, us 5, us 6, us 7, us 8, us 9, us 10, us 11, us 12, us 13, us 14, us 15, us 16, us 17, us 18, us 19, us 20, us 21, us 22, us 23, us 24, us 25, us 26, us 27, us 28, us 29, us 30, us 31, us 32, us 33, us 34, us 35, us 36, us 37, us 38, us 39, us 40, us 41, us 42, us 43, us 44, us 45, us 46, us 47, us 48, us 49, us 50, us 51, us 52, us 53, us 54, us 55, us 56] := rfl
    rw [el] at haf
    subst haf
    rw [t0, t1, t12, t14, t15]
    have HB1 := Lib.hid hW
    clear hus t0 t1 t12 t14 t15 el hf' hs' hd' hW
    simp only [List.drop_succ_cons, List.drop_zero]
    go_wp2_with fail
    refine (HW1.out W1 HB1.out).mono ?_
    rintro e w2 ⟨rfl, hnx⟩
    have hnx := Next.pre HB1.out HD.out.lt hnx
    have HN2 := Lib.hid hnx
    clear hnx HW1
    by_cases hx1 : x1 ≠ 0
    · have hz := ne_zero hx1
      have HX1 := Lib.hid hx1
      clear hx1
      go_wp2
      go_ret
      have h := HY.out
      rw [if_pos HX1.out] at h
      cases h
      exact ⟨rfl, HN2.out.mono (by omega) (by have := HCc.out; omega)⟩
    have HX1 := Lib.hid hx1
    have hx0 : x1 = 0 := by omega
    have hz : ((x1 : Int) != 0) = false := by rw [hx0]; rfl
    clear hx1 hx0
    have HC2 : Hid (IsFile w2 x d q v0 t0 o) := HN2.out.isFile HC.out HX.out
    have hG2 : ∀ W W' : World, Below w2.heap.size w2 W → Below W.heap.size W W' → Below w2.heap.size w2 W' := fun W W' h h' => h.trans (h'.mono h.size)
    go_upto_region 4 with fail
    clear hz
    refine region_tails_by 8 [(20, .is (.pointer (some ⟨x, 0, none⟩))), (21, .is (.pointer (some ⟨x, 0, none⟩))), (22, .is (.pointer (some ⟨x, 0, none⟩))), (23, .is (.pointer (some ⟨d, 0, none⟩))), (24, .is (.pointer (some ⟨x, 0, none⟩))), (25, .is (.string A)), (26, .is (.slice ta tn tc)), (27, .is (.int .i64 (tn : Int)))] [0, 23, 25, 27] (fun W => Below w2.heap.size w2 W) (by kernel_rfl) (by kernel_rfl) (by kernel_rfl) (by kernel_rfl) (by kernel_rfl) (by decide) (by kernel_rfl) (by kernel_rfl) ((Below.refl _ _).drew) ?_ ?_
    · refine ⟨?c0, ?c1, ?c2, ?c3, ?c4, ?c5, ?c6, ?c7, trivial⟩
      case c0 => exact ask_copy (guard_none rfl) (.tmp 0) (.inl rfl) (by intro k hk; cases hk; rfl)
      case c1 => exact ask_exec (guard_none rfl) (.pointer (some ⟨x, 0, none⟩)) rfl rfl (by intro k hk; cases hk; rfl) (fun W hW => by kernel_rfl)
      case c2 => exact ask_field (guard_none rfl) _ (.tmp 21) 0 (.pointer (some ⟨x, 0, none⟩)) (.pointer (some ⟨x, 0, none⟩)) rfl rfl (by intro k hk; cases hk; rfl) (fun W => by kernel_rfl)
      case c3 => exact ask_load (guard_none rfl) _ (.tmp 22) (.pointer (some ⟨x, 0, none⟩)) (.pointer (some ⟨d, 0, none⟩)) rfl rfl (by intro k hk; cases hk; rfl) (fun W hW => load_dp W _ _ (by rw [hW.cell (p := ⟨x, 0, none⟩) (Blk.lt HC2.out), (Blk.cell HC2.out)]; rfl))
      case c4 => exact ask_copy (guard_none rfl) (.tmp 0) (.inl rfl) (by intro k hk; cases hk; rfl)
      case c5 => exact ask_call hG2 (guard_none rfl) _ _ _ #[.pointer (some ⟨x, 0, none⟩)] (.is (.string A)) rfl (by kernel_rfl) rfl rfl (by intro k hk; cases hk; rfl) (fun W hW => (HBe.out W (HC2.out.below hW)).mono fun e w' h => by obtain ⟨h1, rfl⟩ := h; exact ⟨_, h1, rfl, Below.refl _ _⟩)
      case c6 => exact ask_copy (guard_none rfl) (.tmp 1) (.inl rfl) (by intro k hk; cases hk; rfl)
      case c7 => exact ask_len (guard_none rfl) _ _ ta tn tc rfl (by kernel_rfl) rfl (by intro k hk; cases hk; rfl)
    · intro af W2 hW hd' hs' hf'
      have t0 : af.tmps.getD 0 undef = .pointer (some ⟨x, 0, none⟩) := hf' 0 rfl
      have t23 : af.tmps.getD 23 undef = .pointer (some ⟨d, 0, none⟩) := hf' 23 rfl
      have t25 : af.tmps.getD 25 undef = .string A := hf' 25 rfl
      have t27 : af.tmps.getD 27 undef = .int .i64 (tn : Int) := hf' 27 rfl
      obtain ⟨us, hus, haf⟩ := act_open 57 af hs' hd'
      rw [← hus] at t0 t23 t25 t27
      have el : ((List.range 57).map us).toArray = #[us 0, us 1, us 2, us 3, us 4, us 5, us 6, us 7, us 8, us 9, us 10, us 11, us 12, us 13, us 14, us 15, us 16, us 17, us 18, us 19, us 20, us 21, us 22, us 23, us 24, us 25, us 26, us 27, us 28, us 29, us 30, us 31, us 32, us 33, us 34, us 35, us 36, us 37, us 38, us 39, us 40, us 41, us 42, us 43, us 44, us 45, us 46, us 47, us 48, us 49, us 50, us 51, us 52, us 53, us 54, us 55, us 56] := rfl
      rw [el] at haf
      subst haf
      rw [t0, t23, t25, t27]
      have HB2 := Lib.hid hW
      clear hus t0 t23 t25 t27 el hf' hs' hd' hW
      simp only [List.drop_succ_cons, List.drop_zero]
      go_wp2_with fail
      refine (HCt.out W2 _ (HN2.out.disk.below HB2.out)).mono ?_
      rintro e w3 ⟨rfl, hnx⟩
      have hnx := HN2.out.trans (Next.pre HB2.out HN2.out.disk.lt hnx)
      have HN3 := Lib.hid hnx
      clear hnx HCt
      by_cases hx2 : x2 ≠ 0
      · have hz := ne_zero hx2
        have HX2 := Lib.hid hx2
        clear hx2
        go_wp2
        go_ret
        have h := HY.out
        rw [if_neg HX1.out, if_pos HX2.out] at h
        cases h
        exact ⟨rfl, HN3.out.mono (by omega) (by have := HCc.out; omega)⟩
      have HX2 := Lib.hid hx2
      have hx0 : x2 = 0 := by omega
      have hz : ((x2 : Int) != 0) = false := by rw [hx0]; rfl
      clear hx2 hx0
      have c0 : w3.cell? ⟨x, 0, none⟩ = some (dp d) := by rw [Blk.cell (HN3.out.isFile HC.out HX.out)]; rfl
      go_wp2_with fail
      refine (HS1.out w3 _ HN3.out.disk).mono ?_
      rintro e w4 ⟨rfl, hnx⟩
      have hnx := HN3.out.trans hnx
      have HN4 := Lib.hid hnx
      clear hnx HS1 c0 hz HN3 HN2 HC2
      by_cases hx3 : x3 ≠ 0
      · have hz := ne_zero hx3
        have HX3 := Lib.hid hx3
        clear hx3
        go_wp2
        go_ret
        have h := HY.out
        rw [if_neg HX1.out, if_neg HX2.out, if_pos HX3.out] at h
        cases h
        exact ⟨rfl, HN4.out.mono (by omega) (by have := HCc.out; omega)⟩
      have HX3 := Lib.hid hx3
      have hx0 : x3 = 0 := by omega
      have hz : ((x3 : Int) != 0) = false := by rw [hx0]; rfl
      clear hx3 hx0
      have HC4 : Hid (IsFile w4 x d q v0 t0 o) := HN4.out.isFile HC.out HX.out
      have hG4 : ∀ W W' : World, Below w4.heap.size w4 W → Below W.heap.size W W' → Below w4.heap.size w4 W' := fun W W' h h' => h.trans (h'.mono h.size)
      go_upto_region 10 with fail
      clear hz
      refine region_tails_by 8 [(40, .is (.pointer (some ⟨x, 0, none⟩))), (41, .is (.pointer (some ⟨x, 0, none⟩))), (42, .is (.pointer (some ⟨x, 0, none⟩))), (43, .is (.pointer (some ⟨d, 0, none⟩))), (44, .is (.pointer (some ⟨x, 0, none⟩))), (45, .is (.string A)), (46, .is (.pointer (some ⟨x, 0, none⟩))), (47, .is (.string B))] [0, 43, 45, 47] (fun W => Below w4.heap.size w4 W) (by kernel_rfl) (by kernel_rfl) (by kernel_rfl) (by kernel_rfl) (by kernel_rfl) (by decide) (by kernel_rfl) (by kernel_rfl) ((Below.refl _ _).drew) ?_ ?_
      · refine ⟨?c0, ?c1, ?c2, ?c3, ?c4, ?c5, ?c6, ?c7, trivial⟩
        case c0 => exact ask_copy (guard_none rfl) (.tmp 0) (.inl rfl) (by intro k hk; cases hk; rfl)
        case c1 => exact ask_exec (guard_none rfl) (.pointer (some ⟨x, 0, none⟩)) rfl rfl (by intro k hk; cases hk; rfl) (fun W hW => by kernel_rfl)
        case c2 => exact ask_field (guard_none rfl) _ (.tmp 41) 0 (.pointer (some ⟨x, 0, none⟩)) (.pointer (some ⟨x, 0, none⟩)) rfl rfl (by intro k hk; cases hk; rfl) (fun W => by kernel_rfl)
        case c3 => exact ask_load (guard_none rfl) _ (.tmp 42) (.pointer (some ⟨x, 0, none⟩)) (.pointer (some ⟨d, 0, none⟩)) rfl rfl (by intro k hk; cases hk; rfl) (fun W hW => load_dp W _ _ (by rw [hW.cell (p := ⟨x, 0, none⟩) (Blk.lt HC4.out), (Blk.cell HC4.out)]; rfl))
        case c4 => exact ask_copy (guard_none rfl) (.tmp 0) (.inl rfl) (by intro k hk; cases hk; rfl)
        case c5 => exact ask_call hG4 (guard_none rfl) _ _ _ #[.pointer (some ⟨x, 0, none⟩)] (.is (.string A)) rfl (by kernel_rfl) rfl rfl (by intro k hk; cases hk; rfl) (fun W hW => (HBe.out W (HC4.out.below hW)).mono fun e w' h => by obtain ⟨h1, rfl⟩ := h; exact ⟨_, h1, rfl, Below.refl _ _⟩)
        case c6 => exact ask_copy (guard_none rfl) (.tmp 0) (.inl rfl) (by intro k hk; cases hk; rfl)
        case c7 => exact ask_call hG4 (guard_none rfl) _ _ _ #[.pointer (some ⟨x, 0, none⟩)] (.is (.string B)) rfl (by kernel_rfl) rfl rfl (by intro k hk; cases hk; rfl) (fun W hW => (HPl.out W (HC4.out.below hW)).mono fun e w' h => by obtain ⟨h1, rfl⟩ := h; exact ⟨_, h1, rfl, Below.refl _ _⟩)
      · intro af W4 hW hd' hs' hf'
        have t0 : af.tmps.getD 0 undef = .pointer (some ⟨x, 0, none⟩) := hf' 0 rfl
        have t43 : af.tmps.getD 43 undef = .pointer (some ⟨d, 0, none⟩) := hf' 43 rfl
        have t45 : af.tmps.getD 45 undef = .string A := hf' 45 rfl
        have t47 : af.tmps.getD 47 undef = .string B := hf' 47 rfl
        obtain ⟨us, hus, haf⟩ := act_open 57 af hs' hd'
        rw [← hus] at t0 t43 t45 t47
        have el : ((List.range 57).map us).toArray = #[us 0, us 1, us 2, us 3, us 4, us 5, us 6, us 7, us 8, us 9, us 10, us 11, us 12, us 13, us 14, us 15, us 16, us 17, us 18, us 19, us 20, us 21, us 22, us 23, us 24, us 25, us 26, us 27, us 28, us 29, us 30, us 31, us 32, us 33, us 34, us 35, us 36, us 37, us 38, us 39, us 40, us 41, us 42, us 43, us 44, us 45, us 46, us 47, us 48, us 49, us 50, us 51, us 52, us 53, us 54, us 55, us 56] := rfl
        rw [el] at haf
        subst haf
        rw [t0, t43, t45, t47]
        have HB4 := Lib.hid hW
        clear hus t0 t43 t45 t47 el hf' hs' hd' hW
        simp only [List.drop_succ_cons, List.drop_zero]
        go_wp2_with fail
        refine (HR1.out W4 _ (HN4.out.disk.below HB4.out)).mono ?_
        rintro e w5 ⟨rfl, hnx⟩
        have hnx := HN4.out.trans (Next.pre HB4.out HN4.out.disk.lt hnx)
        have HN5 := Lib.hid hnx
        clear hnx HR1
        by_cases hx4 : x4 ≠ 0
        · have hz := ne_zero hx4
          have HX4 := Lib.hid hx4
          clear hx4
          go_wp2
          go_ret
          have h := HY.out
          rw [if_neg HX1.out, if_neg HX2.out, if_neg HX3.out, if_pos HX4.out] at h
          cases h
          exact ⟨rfl, HN5.out⟩
        have HX4 := Lib.hid hx4
        have hx0 : x4 = 0 := by omega
        have hz : ((x4 : Int) != 0) = false := by rw [hx0]; rfl
        clear hx4 hx0
        have c0 : w5.cell? ⟨x, 0, none⟩ = some (dp d) := by rw [Blk.cell (HN5.out.isFile HC.out HX.out)]; rfl
        go_wp2_with fail
        refine (HS2.out w5 _ HN5.out.disk).mono ?_
        rintro e w6 ⟨rfl, hnx⟩
        have hnx := HN5.out.trans hnx
        have HN6 := Lib.hid hnx
        clear hnx HS2 c0 hz
        go_wp2
        go_ret
        have h := HY.out
        rw [if_neg HX1.out, if_neg HX2.out, if_neg HX3.out, if_neg HX4.out] at h
        cases h
        exact ⟨rfl, HN6.out⟩
end Go.Proofs.Ytboongdoggggoaa
