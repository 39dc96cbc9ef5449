/- few: what a law looks at. -/
import Derived.Test.YtabddeoeihlnnaaDiskOps
namespace Go.Proofs.Ytabddeoeihlnnaa
open Go.RowKit Go.Maps DiskMath

/-- Short texts, near places. -/
def Short (o : LOp) : Prop := o.b.length ≤ 5000 ∧ (o.n ≤ 5000 ∨ 1048576 < o.n)
def Few (L : List LOp) : Prop := ∀ (i : Nat) (o : LOp), L[i]? = some o → i < 60 → Short o

/-- How few ends. -/
def FewEnd (L : List LOp) (e : Ending) : Prop := ∃ t, e = .returned (.bool t) ∧ (t = true → Few L)

theorem script_index (W : World) (ad : Addr) (n cap i : Nat) (hi : i < n) : (Instr.indexAt 22 (.slice (some ad) n cap) (.int .i64 (i : Int))).run Try.prog W = .ok (.pointer (some (ad.add (i * 6)))) W := by
  have he : Try.prog.elem 22 = 33 := by kernel_rfl
  have hs : (Go.sizeOf 33).run Try.prog W = .ok 6 W := by kernel_rfl
  have ht : Try.prog.underlying 22 = some (.slice (Try.prog.elem 22)) := by rw [he]; exact Try.underlying22
  rw [run_indexAt_slice (h := ht), if_pos (by omega), he, hs]
  simp [Result.andThen]

set_option maxHeartbeats 1000000 in
theorem few_any {w : World} {a : Option Addr} {len cap : Nat} {L : List LOp} (h : ScriptAt w a L) (hl : L.length = len) :
    Calls Try.prog 9 #[.slice a len cap] w fun e w' => FewEnd L e ∧ w = w' := by
  have HS := Lib.hid h
  have HL := Lib.hid hl
  clear h hl
  go_enter Try.func9, Try.ntmps9
  go_wp2
  go_loop [3, 4] (fun s3 s4 => ∃ i n : Nat, i ≤ len ∧ i ≤ 60 ∧ s3 = .int .i64 n ∧ n ≤ 5000 * i ∧ s4 = .int .i64 i ∧ Hid (∀ (j : Nat) (o : LOp), L[j]? = some o → j < i → Short o)) (fun _ s4 => 60 - (intOf s4).toNat)
  case atStart => exact ⟨0, 0, Nat.zero_le _, Nat.zero_le _, rfl, Nat.zero_le _, rfl, Lib.hid fun j o _ h => absurd h (Nat.not_lt_zero j)⟩
  case round =>
    obtain ⟨i, n, hi, hi60, rfl, hn, rfl, HAll⟩ := hrel
    have i0 : (0 : Int) ≤ (i : Int) := Int.natCast_nonneg _
    have n0 : (0 : Int) ≤ (n : Int) := Int.natCast_nonneg _
    have hn2 : n ≤ 300000 := by omega
    have HEnd : Hid (¬ (i < len ∧ i < 60) → Few L) := Lib.hid fun hno j o hj hj60 => by
      refine HAll.out j o hj ?_
      have h1 := (List.getElem?_eq_some_iff.1 hj).1
      have := HL.out
      omega
    by_cases hlt : i < len
    · have i1 : (i : Int) < (len : Int) := by omega
      have i2 : decide (i < len) = true := by simpa using hlt
      by_cases h60 : i < 60
      · have i3 : decide ((i : Int) < 60) = true := by simp; omega
        obtain ⟨o, ho⟩ : ∃ o, L[i]? = some o := ⟨L[i]'(by have := HL.out; omega), List.getElem?_eq_getElem _⟩
        obtain ⟨hok, ad, A, C, KA, KC, rfl, -, -, -, c3, c4, -, -, -⟩ := HS.out i o ho
        have hidx : ∀ W, (Instr.indexAt 22 (.slice (some ad) len cap) (.int .i64 (i : Int))).run Try.prog W = .ok (.pointer (some (ad.add (i * 6)))) W := fun W => script_index W ad len cap i hlt
        obtain ⟨p, hp⟩ : ∃ p, p = ad.add (i * 6) := ⟨_, rfl⟩
        rw [← hp] at hidx c3 c4
        have hob := hok.b
        have hon := hok.n
        obtain ⟨bl, hbl⟩ : ∃ bl, bl = o.b.length := ⟨_, rfl⟩
        obtain ⟨on, hon2⟩ : ∃ on, on = o.n := ⟨_, rfl⟩
        rw [← hbl] at hob c4
        rw [← hon2] at hon c3
        have HMore : Hid (bl ≤ 5000 → (on ≤ 5000 ∨ 1048576 < on) → ∀ (j : Nat) (o : LOp), L[j]? = some o → j < i + 1 → Short o) := Lib.hid fun g1 g2 j o' hj hji => by
          by_cases he : j = i
          · subst he
            rw [ho] at hj
            cases hj
            exact ⟨by rw [← hbl]; exact g1, by rw [← hon2]; exact g2⟩
          · exact HAll.out j o' hj (by omega)
        have HN5 := Lib.hid hn
        clear hp hok hbl hon2 ho HEnd HAll hn
        by_cases h5 : 5000 < bl
        · have i4 : decide (5000 < (bl : Int)) = true := by simp; omega
          have i5 : decide (5000 < bl) = true := by simp; omega
          go_wp2
          go_ret
          exact ⟨⟨false, rfl, fun h => by cases h⟩, rfl⟩
        · have i4 : decide (5000 < (bl : Int)) = false := by simp; omega
          have i5 : decide (5000 < bl) = false := by simp; omega
          by_cases h6 : 5000 < on
          · have i6 : decide (5000 < on) = true := by simpa using h6
            by_cases h7 : on ≤ 1048576
            · have i7 : decide (on ≤ 1048576) = true := by simpa using h7
              go_wp2
              go_ret
              exact ⟨⟨false, rfl, fun h => by cases h⟩, rfl⟩
            · have i7 : decide (on ≤ 1048576) = false := by simpa using h7
              have HM := Lib.hid (HMore.out (by omega) (by omega))
              go_wp2
              refine ⟨⟨i + 1, n + bl, by omega, by omega, by go_num, by have := HN5.out; omega, by go_num, HM⟩, by simp [intOf]; omega⟩
          · have i6 : decide (5000 < on) = false := by simpa using h6
            have HM := Lib.hid (HMore.out (by omega) (by omega))
            go_wp2
            refine ⟨⟨i + 1, n + bl, by omega, by omega, by go_num, by have := HN5.out; omega, by go_num, HM⟩, by simp [intOf]; omega⟩
      · have i3 : decide ((i : Int) < 60) = false := by simp; omega
        have HE := Lib.hid (HEnd.out (by omega))
        clear HEnd HAll
        go_wp2
        go_ret
        exact ⟨⟨_, rfl, fun _ => HE.out⟩, rfl⟩
    · have i1 : decide ((i : Int) < (len : Int)) = false := by simp; omega
      have i2 : decide (i < len) = false := by simpa using hlt
      have HE := Lib.hid (HEnd.out (by omega))
      clear HEnd HAll
      go_wp2
      go_ret
      exact ⟨⟨_, rfl, fun _ => HE.out⟩, rfl⟩
end Go.Proofs.Ytabddeoeihlnnaa
