/- A vault: Open, Get, Put. -/
import Derived.Test.YtejmmjlmnfnacaaSwapOpen
namespace Go.Proofs.Ytejmmjlmnfnacaa
open Go.RowKit Go.Maps DiskMath SwapMath Reg

/-- A vault in memory: its file. -/
abbrev IsV (w : World) (z x : Nat) : Prop := Blk w z 100 #[.pointer (some ⟨x, 0, none⟩)]

/-- How Open ends. -/
def VOpenEnd (w : World) (T : Nat → Prop) (d c : Nat) (q : Nm) (t : Tx) (Y : Nat) (Z : St) (e : Ending) (w' : World) : Prop :=
  (Y = 6 ∧ e = .returned (.tuple #[.pointer none, .int .i64 6]) ∧ Next w T d c Z w') ∨
  (Y = 0 ∧ ∃ z x U, e = .returned (.tuple #[.pointer (some ⟨z, 0, none⟩), .int .i64 0]) ∧ w.heap.size ≤ z ∧ Sw w' U x d c q Z t false ∧ ¬ U z ∧ (∀ k, U k → T k ∨ w.heap.size ≤ k) ∧ IsV w' z x ∧ OnlyS T w w')

theorem vOpen_arg {q : Nm} (hq : wnB q = false) (hl : q.length ≤ 9223372036854775807) (p : Option Addr) (w : World) :
    Calls Try.prog 25 #[.pointer p, nm q] w fun e w' => e = .returned (.tuple #[.pointer none, .int .i64 1]) ∧ w' = w := by
  have H := Lib.hid (Open_arg hq hl p w)
  clear hq hl
  go_enter Try.func25, Try.ntmps25
  go_wp2_with fail
  refine H.out.mono ?_
  rintro e w' ⟨rfl, rfl⟩
  go_wp2
  go_ret2
  exact ⟨rfl, rfl⟩

theorem nvOpen_any {q : Nm} (hq : wn q) (w : World) : Calls Try.prog 25 #[.pointer none, nm q] w fun e w' => e = .returned (.tuple #[.pointer none, .int .i64 6]) ∧ Below w.heap.size w w' := by
  have H := Lib.hid (nOpen_any hq w)
  clear hq
  go_enter Try.func25, Try.ntmps25
  go_wp2_with fail
  refine H.out.mono ?_
  rintro e w' ⟨rfl, hb⟩
  have HB := Lib.hid hb
  clear hb
  go_wp2
  go_ret2
  exact ⟨rfl, HB.out⟩

set_option maxHeartbeats 1000000 in
theorem vOpen_any {w : World} {T : Nat → Prop} {d c : Nat} {q : Nm} {s : St} (hq : wn q) (hD : IsDisk w T d c s) (hc : c + 1 ≤ 2000) :
    Calls Try.prog 25 #[dp d, nm q] w (VOpenEnd w T d (c + 1) q (getA (nowN q) s.now) (opA q s).1 (opA q s).2) := by
  have H := Lib.hid (swOpen_any hq hD hc)
  have HT := Lib.hid hD.lt
  clear hq hD hc
  go_enter Try.func25, Try.ntmps25
  go_wp2_with fail
  refine H.out.mono ?_
  rintro e w1 (⟨h6, rfl, hnx⟩ | ⟨h0, x, rfl, hx, hsw, ho⟩)
  · have HN := Lib.hid hnx
    have H6 := Lib.hid h6
    clear hnx h6 H
    go_wp2
    go_ret2
    exact .inl ⟨H6.out, rfl, HN.out⟩
  · have HS := Lib.hid hsw
    have H0 := Lib.hid h0
    have HO := Lib.hid ho
    have HX := Lib.hid hx
    clear hsw h0 ho hx H
    go_wp2
    go_ret2
    have h1 := HO.out.size
    exact .inr ⟨H0.out, _, x, _, rfl, h1, HS.out.below ((Below.refl _ w1).alloc (Nat.le_refl _) _), fun h => Nat.lt_irrefl _ (HS.out.lt _ h), fun k hk => hk.imp id fun h => h.1, Blk.new w1 _ _, HO.out.alloc _⟩

section
variable {w : World} {U : Nat → Prop} {z x d c : Nat} {q : Nm} {s : St} {t : Tx} {o : Bool}

theorem vGet_any (hz : IsV w z x) (h : Sw w U x d c q s t o) : Calls Try.prog 41 #[.pointer (some ⟨z, 0, none⟩)] w fun e w' => ∃ v', e = .returned (.tuple #[v', .bool t.isSome]) ∧ Row w' w.heap.size v' (t.getD []) ∧ Below w.heap.size w w' := by
  have H := Lib.hid (swGet_any h)
  have c0 : w.cell? ⟨z, 0, none⟩ = some (.pointer (some ⟨x, 0, none⟩)) := by rw [Blk.cell hz]; rfl
  clear hz h
  go_enter Try.func41, Try.ntmps41
  go_wp2_with fail
  refine H.out.mono ?_
  rintro e w1 ⟨v, rfl, hr, hb⟩
  have HR := Lib.hid hr
  have HB := Lib.hid hb
  clear hr hb H c0
  go_wp2
  go_ret2
  exact ⟨_, rfl, HR.out, HB.out⟩

theorem nvGet_any (w : World) : Calls Try.prog 41 #[.pointer none] w fun e w' => e = .returned (.tuple #[.slice none 0 0, .bool false]) ∧ w' = w := by
  go_enter Try.func41, Try.ntmps41
  go_wp2
  go_ret2
  exact ⟨rfl, rfl⟩

theorem nvPut_any (b : Value) (w : World) : Calls Try.prog 26 #[.pointer none, b] w fun e w' => e = .returned (.int .i64 6) ∧ w' = w := by
  go_enter Try.func26, Try.ntmps26
  go_wp2
  go_ret
  exact ⟨rfl, rfl⟩

theorem vPut_over {b : Value} (hz : IsV w z x) (h : Sw w U x d c q s t true) : Calls Try.prog 26 #[.pointer (some ⟨z, 0, none⟩), b] w fun e w' => e = .returned (.int .i64 6) ∧ w' = w := by
  have H := Lib.hid (swOver_any h)
  have c0 : w.cell? ⟨z, 0, none⟩ = some (.pointer (some ⟨x, 0, none⟩)) := by rw [Blk.cell hz]; rfl
  clear hz h
  go_enter Try.func26, Try.ntmps26
  go_wp2_with fail
  refine H.out.mono ?_
  rintro e w' ⟨rfl, rfl⟩
  go_wp2
  go_ret
  exact ⟨rfl, rfl⟩

theorem vPut_long {ta : Option Addr} {tn tc : Nat} (hz : IsV w z x) (h : Sw w U x d c q s t false) (hn : 32768 < tn) : Calls Try.prog 26 #[.pointer (some ⟨z, 0, none⟩), .slice ta tn tc] w fun e w' => e = .returned (.int .i64 4) ∧ w' = w := by
  have H := Lib.hid (swOver_any h)
  have c0 : w.cell? ⟨z, 0, none⟩ = some (.pointer (some ⟨x, 0, none⟩)) := by rw [Blk.cell hz]; rfl
  have hl : decide (32768 < (tn : Int)) = true := by simp; omega
  clear hz h
  go_enter Try.func26, Try.ntmps26
  go_wp2_with fail
  refine H.out.mono ?_
  rintro e w' ⟨rfl, rfl⟩
  go_wp2
  go_ret
  exact ⟨rfl, rfl⟩

theorem vPut_any {b : List UInt8} {ta : Option Addr} {tn tc : Nat} (hq : wn q) (hz : IsV w z x) (h : Sw w U x d c q s t false) (ht : Bys w (.slice ta tn tc) b) (htn : b.length = tn) (hn : tn ≤ 32768) (hta : b ≠ [] → ∀ ad, ta = some ad → ad.block < w.heap.size ∧ ¬ U ad.block) (hc : c + 3 ≤ 2000) :
    Calls Try.prog 26 #[.pointer (some ⟨z, 0, none⟩), .slice ta tn tc] w fun e w' => e = .returned (.int .i64 (saysC (swA q s b).1 : Int)) ∧ PutEnd w U x d (c + 3) q t b (swA q s b).1 (swA q s b).2 w' := by
  have H := Lib.hid (swOver_any h)
  have HP := Lib.hid (swPut_any hq h ht htn (by omega) hta hc)
  have c0 : w.cell? ⟨z, 0, none⟩ = some (.pointer (some ⟨x, 0, none⟩)) := by rw [Blk.cell hz]; rfl
  have hl : decide (32768 < (tn : Int)) = false := by simp; omega
  obtain ⟨Y, hY⟩ : ∃ Y, Y = (swA q s b).1 := ⟨_, rfl⟩
  obtain ⟨Z, hZ⟩ : ∃ Z, Z = (swA q s b).2 := ⟨_, rfl⟩
  rw [← hY, ← hZ] at HP ⊢
  clear hz h hn hq ht htn hta hc hY hZ
  go_enter Try.func26, Try.ntmps26
  go_wp2_with fail
  refine H.out.mono ?_
  rintro e w' ⟨rfl, rfl⟩
  go_wp2_with fail
  refine HP.out.mono ?_
  rintro e w2 ⟨rfl, hend⟩
  have HE := Lib.hid hend
  clear hend
  go_wp2
  go_ret
  exact ⟨rfl, HE.out⟩
end
end Go.Proofs.Ytejmmjlmnfnacaa
