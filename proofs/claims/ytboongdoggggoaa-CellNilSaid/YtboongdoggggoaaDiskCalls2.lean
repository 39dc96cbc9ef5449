/- Cut, Remove, Rename, Read. -/
import Derived.Test.YtboongdoggggoaaDiskCalls
namespace Go.Proofs.Ytboongdoggggoaa
set_option maxRecDepth 20000
open Go.RowKit Go.Maps DiskMath Reg

theorem get_some {F : Gf} {L : Fs} (h : pr F = L) (n : Nm) : (getA n F).isSome = (getA n L).isSome := by
  rw [← h, pr_get]
  cases getA n F <;> rfl

theorem long_row {w : World} {m : Nat} {F : Gf} (hk : Keep w m F) {n : Nm} {t : List UInt8} (hg : getA n (pr F) = some t) : ∃ A C, vOf n F = .slice A t.length C ∧ Row w 0 (.slice A t.length C) t := by
  have h := vOf_row hk n
  rw [hg] at h
  obtain ⟨A, C, e⟩ := slice_of_row h
  exact ⟨A, C, e, by rw [← show _ = Value.slice A t.length C from e]; exact h⟩

theorem row_nil (w : World) (B : Nat) : Row w B (.slice none 0 0) [] := World.ownsRow_nil _ _ _ _

set_option maxHeartbeats 1000000 in
theorem remove_any {w : World} {T : Nat → Prop} {d c : Nat} {s : St} {n : Nm} (h : IsDisk w T d c s) (hc : c + 1 ≤ 2000) (hn : n.length ≤ 9223372036854775807) :
    Calls Try.prog 128 #[dp d, nm n] w fun e w' => e = .returned (.int .i64 ((s.remove n).1 : Int)) ∧ Next w T d (c + 1) (s.remove n).2 w' := by
  unfold St.remove
  have hself : Next w T d (c + 1) s w := (Next.refl h).mono (Nat.le_succ c) hc
  have hlt := h.lt
  obtain ⟨m1, m2, F1, F2, ws, G, hd, ht⟩ := h.ex
  have c3 : w.cell? ⟨d, 3, none⟩ = some (.map (some m1)) := by rw [hd.cells]; rfl
  have HDown := Lib.hid (down_any hd)
  have HHas := Lib.hid (has_any c3 hd.k1 hn)
  rw [get_some hd.p1] at HHas
  have HSelf := Lib.hid hself
  have HD := Lib.hid hd
  have HT := Lib.hid ht
  have HLt := Lib.hid hlt
  clear hself h hd ht hlt
  by_cases h1 : s.off = true
  · rw [if_pos h1]
    rw [h1] at HDown
    clear h1 c3 HHas
    go_enter Try.func128, Try.ntmps128
    go_wp2_with fail
    refine HDown.out.mono ?_
    rintro e w' ⟨rfl, rfl⟩
    go_wp2
    go_ret
    exact ⟨rfl, HSelf.out⟩
  rw [if_neg h1]
  rw [show s.off = false by simpa using h1] at HDown
  clear h1
  have HN16 : Hid (∀ t, getA n s.now = some t → n.length ≤ 16) := fun t h => (HD.out.ok.fitN _ (getA_mem h)).1
  cases hg : getA n s.now with
  | none =>
    simp only
    rw [hg] at HHas
    clear c3
    go_enter Try.func128, Try.ntmps128
    go_wp2_with fail
    refine HDown.out.mono ?_
    rintro e w' ⟨rfl, rfl⟩
    go_wp2_with fail
    refine HHas.out.mono ?_
    rintro e w' ⟨rfl, rfl⟩
    go_wp2
    go_ret
    exact ⟨rfl, HSelf.out⟩
  | some t =>
    simp only
    rw [hg] at HHas
    have hn16 := HN16.out t hg
    clear HN16
    have HN16 := Lib.hid hn16
    obtain ⟨N, hN⟩ : ∃ N, nm n = .string N := ⟨_, rfl⟩
    have hfo : FitO ⟨2, n, [], 0, []⟩ := ⟨(by show 2 ≤ 3; omega), HN16.out, Nat.zero_le _, Nat.zero_le _, fun h => absurd h (by show 2 ≠ 0; omega), Nat.zero_le _, fun _ => rfl, fun _ => rfl⟩
    have HRun : Hid (Calls Try.prog 136 #[dp d, .agg #[.int .i64 2, .string N, .string ⟨#[]⟩, .int .i64 0, .slice none 0 0]] w fun e w' => e = .returned (.int .i64 (s.said : Int)) ∧ Next w T d (c + 1) (s.run ⟨2, n, [], 0, []⟩) w') := by
      have h := run_next (op := ⟨2, n, [], 0, []⟩) (v := .slice none 0 0) HD.out HT.out HLt.out hc hfo (Below.refl _ w) (row_nil _ _)
      simp only [opC, hN] at h
      exact h
    rw [hN] at HHas ⊢
    clear hfo hN hg c3 hn16
    go_enter Try.func128, Try.ntmps128
    go_wp2_with fail
    refine HDown.out.mono ?_
    rintro e w' ⟨rfl, rfl⟩
    go_wp2_with fail
    refine HHas.out.mono ?_
    rintro e w' ⟨rfl, rfl⟩
    go_wp2_with fail
    refine HRun.out.mono ?_
    rintro e w2 ⟨rfl, hnx⟩
    have HNx := Lib.hid hnx
    clear hnx
    go_wp2
    go_ret
    exact ⟨rfl, HNx.out⟩

set_option maxHeartbeats 1000000 in
theorem rename_any {w : World} {T : Nat → Prop} {d c : Nat} {s : St} {n q : Nm} (h : IsDisk w T d c s) (hc : c + 1 ≤ 2000) (hn : n.length ≤ 9223372036854775807) (hq : q.length ≤ 9223372036854775807) :
    Calls Try.prog 133 #[dp d, nm n, nm q] w fun e w' => e = .returned (.int .i64 ((s.rename n q).1 : Int)) ∧ Next w T d (c + 1) (s.rename n q).2 w' := by
  unfold St.rename
  have hself : Next w T d (c + 1) s w := (Next.refl h).mono (Nat.le_succ c) hc
  have hlt := h.lt
  obtain ⟨m1, m2, F1, F2, ws, G, hd, ht⟩ := h.ex
  have c3 : w.cell? ⟨d, 3, none⟩ = some (.map (some m1)) := by rw [hd.cells]; rfl
  have HDown := Lib.hid (down_any hd)
  have HHas := Lib.hid (has_any c3 hd.k1 hn)
  rw [get_some hd.p1] at HHas
  have HSelf := Lib.hid hself
  have HD := Lib.hid hd
  have HT := Lib.hid ht
  have HLt := Lib.hid hlt
  have HName := Lib.hid (isName_any q w hq)
  clear hself h hd ht hlt
  by_cases h1 : s.off = true
  · rw [if_pos h1]
    rw [h1] at HDown
    clear h1 c3 HHas
    go_enter Try.func133, Try.ntmps133
    go_wp2_with fail
    refine HDown.out.mono ?_
    rintro e w' ⟨rfl, rfl⟩
    go_wp2
    go_ret
    exact ⟨rfl, HSelf.out⟩
  rw [if_neg h1]
  rw [show s.off = false by simpa using h1] at HDown
  clear h1
  have HN16 : Hid (∀ t, getA n s.now = some t → n.length ≤ 16) := fun t h => (HD.out.ok.fitN _ (getA_mem h)).1
  cases hg : getA n s.now with
  | none =>
    simp only
    rw [hg] at HHas
    clear c3
    go_enter Try.func133, Try.ntmps133
    go_wp2_with fail
    refine HDown.out.mono ?_
    rintro e w' ⟨rfl, rfl⟩
    go_wp2_with fail
    refine HHas.out.mono ?_
    rintro e w' ⟨rfl, rfl⟩
    go_wp2
    go_ret
    exact ⟨rfl, HSelf.out⟩
  | some t =>
    simp only
    rw [hg] at HHas
    have hn16 := HN16.out t hg
    clear HN16
    have HN16 := Lib.hid hn16
    by_cases h2 : named q = false
    · rw [h2] at HName ⊢
      simp only [Bool.not_false, if_true]
      clear h2 hg hn16 c3
      go_enter Try.func133, Try.ntmps133
      go_wp2_with fail
      refine HDown.out.mono ?_
      rintro e w' ⟨rfl, rfl⟩
      go_wp2_with fail
      refine HHas.out.mono ?_
      rintro e w' ⟨rfl, rfl⟩
      go_wp2_with fail
      refine HName.out.mono ?_
      rintro e w' ⟨rfl, rfl⟩
      go_wp2
      go_ret
      exact ⟨rfl, HSelf.out⟩
    have h2' : named q = true := by simpa using h2
    have hq16 := named_len h2'
    rw [h2'] at HName ⊢
    simp only [Bool.not_true, Bool.false_eq_true, if_false]
    obtain ⟨N, hN⟩ : ∃ N, nm n = .string N := ⟨_, rfl⟩
    obtain ⟨M, hM⟩ : ∃ M, nm q = .string M := ⟨_, rfl⟩
    have hfo : FitO ⟨3, n, q, 0, []⟩ := ⟨(by show 3 ≤ 3; omega), HN16.out, hq16, Nat.zero_le _, fun h => absurd h (by show 3 ≠ 0; omega), Nat.zero_le _, fun _ => rfl, fun _ => rfl⟩
    have HRun : Hid (Calls Try.prog 136 #[dp d, .agg #[.int .i64 3, .string N, .string M, .int .i64 0, .slice none 0 0]] w fun e w' => e = .returned (.int .i64 (s.said : Int)) ∧ Next w T d (c + 1) (s.run ⟨3, n, q, 0, []⟩) w') := by
      have h := run_next (op := ⟨3, n, q, 0, []⟩) (v := .slice none 0 0) HD.out HT.out HLt.out hc hfo (Below.refl _ w) (row_nil _ _)
      simp only [opC, hN, hM] at h
      exact h
    rw [hN] at HHas ⊢
    rw [hM] at HName ⊢
    clear hfo hN hM hg c3 hn16 h2 h2' hq16
    go_enter Try.func133, Try.ntmps133
    go_wp2_with fail
    refine HDown.out.mono ?_
    rintro e w' ⟨rfl, rfl⟩
    go_wp2_with fail
    refine HHas.out.mono ?_
    rintro e w' ⟨rfl, rfl⟩
    go_wp2_with fail
    refine HName.out.mono ?_
    rintro e w' ⟨rfl, rfl⟩
    go_wp2_with fail
    refine HRun.out.mono ?_
    rintro e w2 ⟨rfl, hnx⟩
    have HNx := Lib.hid hnx
    clear hnx
    go_wp2
    go_ret
    exact ⟨rfl, HNx.out⟩

set_option maxHeartbeats 1000000 in
theorem cut_any {w : World} {T : Nat → Prop} {d c : Nat} {s : St} {n : Nm} {k : Int} (h : IsDisk w T d c s) (hc : c + 1 ≤ 2000) (hn : n.length ≤ 9223372036854775807) (hk : -9223372036854775808 ≤ k ∧ k ≤ 9223372036854775807) :
    Calls Try.prog 131 #[dp d, nm n, .int .i64 k] w fun e w' => e = .returned (.int .i64 ((s.cut n k).1 : Int)) ∧ Next w T d (c + 1) (s.cut n k).2 w' := by
  unfold St.cut
  have hself : Next w T d (c + 1) s w := (Next.refl h).mono (Nat.le_succ c) hc
  have hlt := h.lt
  obtain ⟨m1, m2, F1, F2, ws, G, hd, ht⟩ := h.ex
  have c3 : w.cell? ⟨d, 3, none⟩ = some (.map (some m1)) := by rw [hd.cells]; rfl
  have HDown := Lib.hid (down_any hd)
  have HHas := Lib.hid (has_any c3 hd.k1 hn)
  rw [get_some hd.p1] at HHas
  have HSelf := Lib.hid hself
  have HD := Lib.hid hd
  have HT := Lib.hid ht
  have HLt := Lib.hid hlt
  clear hself h hd ht hlt
  by_cases h1 : s.off = true
  · rw [if_pos h1]
    rw [h1] at HDown
    clear h1 c3 HHas
    go_enter Try.func131, Try.ntmps131
    go_wp2_with fail
    refine HDown.out.mono ?_
    rintro e w' ⟨rfl, rfl⟩
    go_wp2
    go_ret
    exact ⟨rfl, HSelf.out⟩
  rw [if_neg h1]
  rw [show s.off = false by simpa using h1] at HDown
  clear h1
  have HN16 : Hid (∀ t, getA n s.now = some t → n.length ≤ 16) := fun t h => (HD.out.ok.fitN _ (getA_mem h)).1
  cases hg : getA n s.now with
  | none =>
    simp only
    rw [hg] at HHas
    clear c3
    go_enter Try.func131, Try.ntmps131
    go_wp2_with fail
    refine HDown.out.mono ?_
    rintro e w' ⟨rfl, rfl⟩
    go_wp2_with fail
    refine HHas.out.mono ?_
    rintro e w' ⟨rfl, rfl⟩
    go_wp2
    go_ret
    exact ⟨rfl, HSelf.out⟩
  | some t =>
    simp only
    rw [hg] at HHas
    have hn16 := HN16.out t hg
    clear HN16
    have HN16 := Lib.hid hn16
    have ht8 : t.length ≤ 8388608 := (HD.out.ok.fitN _ (getA_mem hg)).2
    obtain ⟨A, C, hvo, -⟩ := long_row HD.out.k1 (n := n) (t := t) (by rw [HD.out.p1]; exact hg)
    have hlk := look HD.out.k1 hn
    rw [hvo] at hlk
    obtain ⟨L, hL⟩ : ∃ L, L = t.length := ⟨_, rfl⟩
    rw [← hL] at hlk ht8 ⊢
    by_cases h2 : k < 0
    · rw [if_pos (.inl h2)]
      have i1 : decide (k < 0) = true := by simpa using h2
      clear hg hn16 hL hvo
      go_enter Try.func131, Try.ntmps131
      go_wp2_with fail
      refine HDown.out.mono ?_
      rintro e w' ⟨rfl, rfl⟩
      go_wp2_with fail
      refine HHas.out.mono ?_
      rintro e w' ⟨rfl, rfl⟩
      go_wp2
      go_ret
      exact ⟨rfl, HSelf.out⟩
    have i1 : decide (k < 0) = false := by simp; omega
    by_cases h3 : (L : Int) < k
    · rw [if_pos (.inr h3)]
      have i2 : decide ((L : Int) < k) = true := by simpa using h3
      clear hg hn16 hL hvo
      go_enter Try.func131, Try.ntmps131
      go_wp2_with fail
      refine HDown.out.mono ?_
      rintro e w' ⟨rfl, rfl⟩
      go_wp2_with fail
      refine HHas.out.mono ?_
      rintro e w' ⟨rfl, rfl⟩
      go_wp2
      go_ret
      exact ⟨rfl, HSelf.out⟩
    have i2 : decide ((L : Int) < k) = false := by simp; omega
    rw [if_neg (by omega)]
    obtain ⟨K, rfl⟩ : ∃ K : Nat, k = (K : Int) := ⟨k.toNat, by omega⟩
    simp only [Int.toNat_natCast]
    have hK : K ≤ 8388608 := by omega
    obtain ⟨N, hN⟩ : ∃ N, nm n = .string N := ⟨_, rfl⟩
    have hfo : FitO ⟨1, n, [], K, []⟩ := ⟨(by show 1 ≤ 3; omega), HN16.out, Nat.zero_le _, hK, fun h => absurd h (by show 1 ≠ 0; omega), Nat.zero_le _, fun _ => rfl, fun h => absurd h (by show ¬ 1 < 1; omega)⟩
    have HRun : Hid (Calls Try.prog 136 #[dp d, .agg #[.int .i64 1, .string N, .string ⟨#[]⟩, .int .i64 (K : Int), .slice none 0 0]] w fun e w' => e = .returned (.int .i64 (s.said : Int)) ∧ Next w T d (c + 1) (s.run ⟨1, n, [], K, []⟩) w') := by
      have h := run_next (op := ⟨1, n, [], K, []⟩) (v := .slice none 0 0) HD.out HT.out HLt.out hc hfo (Below.refl _ w) (row_nil _ _)
      simp only [opC, hN] at h
      exact h
    rw [hN] at HHas hlk ⊢
    clear hfo hN hg hn16 hL hvo hK
    go_enter Try.func131, Try.ntmps131
    go_wp2_with fail
    refine HDown.out.mono ?_
    rintro e w' ⟨rfl, rfl⟩
    go_wp2_with fail
    refine HHas.out.mono ?_
    rintro e w' ⟨rfl, rfl⟩
    go_wp2_with fail
    refine HRun.out.mono ?_
    rintro e w2 ⟨rfl, hnx⟩
    have HNx := Lib.hid hnx
    clear hnx
    go_wp2
    go_ret
    exact ⟨rfl, HNx.out⟩

set_option maxHeartbeats 1000000 in
theorem read_any {w : World} {T : Nat → Prop} {d c : Nat} {s : St} {n : Nm} (h : IsDisk w T d c s) (hn : n.length ≤ 9223372036854775807) :
    Calls Try.prog 107 #[dp d, nm n] w fun e w' => ∃ v, e = .returned (.tuple #[v, .int .i64 ((s.read n).1 : Int)]) ∧ Row w' w.heap.size v (s.read n).2 ∧ Below w.heap.size w w' := by
  obtain ⟨m1, m2, F1, F2, ws, G, hd, -⟩ := h.ex
  have c3 : w.cell? ⟨d, 3, none⟩ = some (.map (some m1)) := by rw [hd.cells]; rfl
  have HDown := Lib.hid (down_any hd)
  have HHas := Lib.hid (has_any c3 hd.k1 hn)
  rw [get_some hd.p1] at HHas
  have HD := Lib.hid hd
  clear h hd
  unfold St.read
  by_cases h1 : s.off = true
  · rw [if_pos h1]
    rw [h1] at HDown
    clear h1 c3 HHas
    go_enter Try.func107, Try.ntmps107
    go_wp2_with fail
    refine HDown.out.mono ?_
    rintro e w' ⟨rfl, rfl⟩
    go_wp2
    exact bodyPost_ret (v := .tuple #[.slice none 0 0, .int .i64 6]) (by simp [results, Try.results107, go_sem]) rfl ⟨_, rfl, row_nil _ _, Below.refl _ _⟩
  rw [if_neg h1]
  rw [show s.off = false by simpa using h1] at HDown
  clear h1
  cases hg : getA n s.now with
  | none =>
    simp only
    rw [hg] at HHas
    clear c3
    go_enter Try.func107, Try.ntmps107
    go_wp2_with fail
    refine HDown.out.mono ?_
    rintro e w' ⟨rfl, rfl⟩
    go_wp2_with fail
    refine HHas.out.mono ?_
    rintro e w' ⟨rfl, rfl⟩
    go_wp2
    exact bodyPost_ret (v := .tuple #[.slice none 0 0, .int .i64 8]) (by simp [results, Try.results107, go_sem]) rfl ⟨_, rfl, row_nil _ _, Below.refl _ _⟩
  | some t =>
    simp only
    rw [hg] at HHas
    have ht8 : t.length ≤ 8388608 := (HD.out.ok.fitN _ (getA_mem hg)).2
    obtain ⟨A, C, hvo, hrow⟩ := long_row HD.out.k1 (n := n) (t := t) (by rw [HD.out.p1]; exact hg)
    have hlk := look HD.out.k1 hn
    rw [hvo] at hlk
    have HClone := Lib.hid (clone_any A t.length C t w hrow.bys (by omega))
    obtain ⟨L, hL⟩ : ∃ L, L = t.length := ⟨_, rfl⟩
    rw [← hL] at hlk HClone
    clear hg hvo hrow ht8 hL
    go_enter Try.func107, Try.ntmps107
    go_wp2_with fail
    refine HDown.out.mono ?_
    rintro e w' ⟨rfl, rfl⟩
    go_wp2_with fail
    refine HHas.out.mono ?_
    rintro e w' ⟨rfl, rfl⟩
    go_wp2_with fail
    refine HClone.out.mono ?_
    rintro e w2 ⟨v, rfl, hr, hb⟩
    have HR := Lib.hid hr
    have HB := Lib.hid hb
    clear hr hb
    go_wp2
    exact bodyPost_ret (v := .tuple #[v, .int .i64 0]) (by simp [results, Try.results107, go_sem]) rfl ⟨_, rfl, HR.out, HB.out⟩
end Go.Proofs.Ytboongdoggggoaa
