/- The reader's calls: a text, the end, a new reader. -/
import Derived.Test.YtboongdoggggoaaBinMethods
namespace Go.Proofs.Ytboongdoggggoaa
set_option maxRecDepth 20000
open Go.RowKit BinMath
variable {G : Nat}

/-- How a reading of a text ends: t the text, c the error, k' the place behind. -/
def TextAnswers (G R : Nat) (l : List UInt8) (w : World) (t : List UInt8) (c k' : Nat) (e : Ending) (w' : World) : Prop :=
  Only R w w' ∧ ∃ v, e = .returned (.tuple #[v, .int .i64 (c : Int)]) ∧ Row w' w.heap.size v t ∧ IsRd w' R G l k' c

set_option maxHeartbeats 400000 in
theorem rdRaw_ok (R : Nat) (l : List UInt8) (k : Nat) (most : Int) (hm : -9223372036854775808 ≤ most ∧ most ≤ 9223372036854775807) (w : World) (h : IsRd w R G l k 0) :
    Calls Try.prog 18 #[.pointer (some ⟨R, 0, none⟩), .int .i64 most] w (TextAnswers G R l w (textS l most.toNat k 0).1 (textS l most.toNat k 0).2.1 (textS l most.toNat k 0).2.2) := by
  have hmf : ∀ (fn : Fn) (first cap : Array Value) (w : World), (Instr.makeFunc fn first cap).run Try.prog w = .ok (.func fn first cap) w := fun _ _ _ _ => rfl
  have hf := h.facts
  obtain ⟨w0, hw0⟩ : ∃ w0, w0 = (w.alloc (.cells #[.int .i64 most] 3)).alloc (.cells #[.slice none 0 0] 22) := ⟨_, rfl⟩
  have hb0 : Below w.heap.size w w0 := by rw [hw0]; exact ((Below.refl _ _).alloc (Nat.le_refl _) _).alloc (by simp) _
  have hs0 : w0.heap.size = w.heap.size + 2 := by rw [hw0]; simp
  have hM : OneVar w0 w.heap.size 3 (.int .i64 most) := by
    unfold OneVar
    rw [hw0, Below.heap_alloc _ _ _ (by simp)]
    exact heap_alloc_new w _
  have hN : OneVar w0 (w.heap.size + 1) 22 (.slice none 0 0) := by
    unfold OneVar
    rw [hw0]
    have := heap_alloc_new (w.alloc (.cells #[.int .i64 most] 3)) (.cells #[.slice none 0 0] 22)
    simpa using this
  have hA := attempt_any 57 #[.pointer (some ⟨w.heap.size, 0, none⟩), .pointer (some ⟨w.heap.size + 1, 0, none⟩)] (enters _ (by kernel_rfl)) R l k w0 (h.below hb0) (fun b => b = R ∨ b = w.heap.size + 1)
    (fun k' w2 => ∃ t u v, pText most.toNat (l.drop k) = .ok (t, u) ∧ k' = k + u ∧ OneVar w2 (w.heap.size + 1) 22 v ∧ Row w2 (w0.heap.size + 3) v t) _ (.inl rfl)
    (fun b hb => by rw [hs0]; omega)
    (fun w1 hb1 hs1 => by
      have := raw1_any R w.heap.size (w.heap.size + 1) l k most w1 ((h.below hb0).below hb1) hm ((hb1.block _ (by omega)).trans hM) ((hb1.block _ (by omega)).trans hN) (by omega) (by omega)
      rw [hs1] at this
      exact this)
  have HA := Lib.hid hA
  have HB0 := Lib.hid hb0
  clear hA hm hM hN hb0
  obtain ⟨t, c, k0, hq⟩ : ∃ t c k0, textS l most.toNat k 0 = (t, c, k0) := ⟨_, _, _, rfl⟩
  have HQ := Lib.hid hq
  rw [hq]
  clear hq
  go_enter Try.func18, Try.ntmps18
  go_wp2_with fail
  rw [← hw0]
  refine HA.out.mono ?_
  rintro e w' ⟨w2, hsz, ho, ho2, hcase⟩
  have hN' : w'.heap[w.heap.size + 1]? = w2.heap[w.heap.size + 1]? := ho2.block _ (by omega) (by omega)
  have hon : Only R w w' := (OnlyS.then (S := fun b => b = R) (OnlyS.of_below HB0.out (fun _ hk _ => hk)) ho (fun b hb h => by omega)).only (fun b _ h => h)
  have hall : ∃ v, e = .returned (.int .i64 (c : Int)) ∧ IsRd w' R G l k0 c ∧ OneVar w' (w.heap.size + 1) 22 v ∧ Row w' (w.heap.size + 2) v t := by
    have hq := HQ.out
    rcases hcase with ⟨k', rfl, hr, t', u, v, hp, rfl, hv, hrow⟩ | ⟨d, rfl, hr, d', rfl, hp, hv⟩
    · simp only [textS, hp] at hq
      cases hq
      refine ⟨v, rfl, hr, hN'.trans hv, ?_⟩
      have h1 : Row w' (w0.heap.size + 3) v t := by
        refine ⟨hrow.1, ?_⟩
        rcases hrow.2 with h2 | ⟨g, cap, cur, hv2, hB, hg, r⟩
        · exact .inl h2
        · exact .inr ⟨g, cap, cur, hv2, hB, by rw [ho2.block g (Array.getElem?_eq_some_iff.1 hg).1 (by omega)]; exact hg, r⟩
      exact ⟨h1.1, h1.2.imp id fun ⟨g, cap, cur, hv2, hB, r⟩ => ⟨g, cap, cur, hv2, by omega, r⟩⟩
    · simp only [textS, hp] at hq
      cases hq
      exact ⟨_, rfl, hr, hN'.trans hv, World.ownsRow_nil _ _ _ _⟩
  obtain ⟨v, rfl, hr, hv, hrow⟩ := hall
  obtain ⟨a, cap, rfl⟩ := slice_of_row hrow
  have cN : w'.cell? ⟨w.heap.size + 1, 0, none⟩ = some (.slice a t.length cap) := by rw [cell_of_heap hv]; rfl
  have fN : w'.frozen? ⟨w.heap.size + 1, 0, none⟩ = false := free_of_heap hv
  have HV := Lib.hid hv
  have HR := Lib.hid hr
  have HO := Lib.hid hon
  have HRow := Lib.hid hrow
  clear ho ho2 hcase hN' hon hv hr HA hsz hrow hw0 hs0
  go_wp2
  have cE : (w'.setCell ⟨w.heap.size + 1, 0, none⟩ (.slice a t.length cap)).cell? ⟨w.heap.size + 1, 0, none⟩ = some (.slice a t.length cap) := by rw [cell_of_heap (heap_set_same HV.out _)]; rfl
  refine bodyPost_ret (v := .tuple #[.slice a t.length cap, .int .i64 (c : Int)]) (by simp [results, Try.results18, go_sem, cE]) rfl ⟨HO.out.setNew (by simp) _, _, rfl, ?_, ?_⟩
  · have h1 := row_only HRow.out (w' := w'.setCell ⟨w.heap.size + 1, 0, none⟩ (.slice a t.length cap)) (fun g hg => heap_set_other (by omega) _)
    exact ⟨h1.1, h1.2.imp id fun ⟨g, cap, cur, hv2, hB, r⟩ => ⟨g, cap, cur, hv2, by omega, r⟩⟩
  · exact HR.out.only (S := fun b => b = w.heap.size + 1) ((OnlyS.refl (fun b => b = w.heap.size + 1) _).setCell (p := ⟨w.heap.size + 1, 0, none⟩) (fun _ => rfl) _) (fun b hb he => by omega) (by omega)

set_option maxHeartbeats 400000 in
theorem rdRaw_stuck (R : Nat) (l : List UInt8) (k st : Nat) (most : Int) (w : World) (h : IsRd w R G l k st) (hst : st ≠ 0) :
    Calls Try.prog 18 #[.pointer (some ⟨R, 0, none⟩), .int .i64 most] w (TextAnswers G R l w [] st k) := by
  have hmf : ∀ (fn : Fn) (first cap : Array Value) (w : World), (Instr.makeFunc fn first cap).run Try.prog w = .ok (.func fn first cap) w := fun _ _ _ _ => rfl
  have hf := h.facts
  obtain ⟨w0, hw0⟩ : ∃ w0, w0 = (w.alloc (.cells #[.int .i64 most] 3)).alloc (.cells #[.slice none 0 0] 22) := ⟨_, rfl⟩
  have hb0 : Below w.heap.size w w0 := by rw [hw0]; exact ((Below.refl _ _).alloc (Nat.le_refl _) _).alloc (by simp) _
  have hs0 : w0.heap.size = w.heap.size + 2 := by rw [hw0]; simp
  have hN : OneVar w0 (w.heap.size + 1) 22 (.slice none 0 0) := by
    unfold OneVar
    rw [hw0]
    have := heap_alloc_new (w.alloc (.cells #[.int .i64 most] 3)) (.cells #[.slice none 0 0] 22)
    simpa using this
  have hA := attempt_stuck (G := G) 57 #[.pointer (some ⟨w.heap.size, 0, none⟩), .pointer (some ⟨w.heap.size + 1, 0, none⟩)] R l k st w0 (h.below hb0) (by omega)
  have HA := Lib.hid hA
  have HI := Lib.hid h
  have HN := Lib.hid hN
  have HB0 := Lib.hid hb0
  clear hA h hst hN hb0
  go_enter Try.func18, Try.ntmps18
  go_wp2_with fail
  rw [← hw0]
  refine HA.out.mono ?_
  rintro e w' ⟨rfl, hb⟩
  have hv : OneVar w' (w.heap.size + 1) 22 (.slice none 0 0) := (hb.block _ (by omega)).trans HN.out
  have hbw : Below w.heap.size w w' := HB0.out.trans (hb.mono (by omega))
  have cN : w'.cell? ⟨w.heap.size + 1, 0, none⟩ = some (.slice none 0 0) := by rw [cell_of_heap hv]; rfl
  have fN : w'.frozen? ⟨w.heap.size + 1, 0, none⟩ = false := free_of_heap hv
  have HV := Lib.hid hv
  have HO := Lib.hid hbw
  clear hb hbw hv HA hw0 hs0
  go_wp2
  have cE : (w'.setCell ⟨w.heap.size + 1, 0, none⟩ (.slice none 0 0)).cell? ⟨w.heap.size + 1, 0, none⟩ = some (.slice none 0 0) := by rw [cell_of_heap (heap_set_same HV.out _)]; rfl
  have hbf := HO.out.setCell (p := ⟨w.heap.size + 1, 0, none⟩) (by simp) (.slice none 0 0)
  exact bodyPost_ret (v := .tuple #[.slice none 0 0, .int .i64 (st : Int)]) (by simp [results, Try.results18, go_sem, cE]) rfl ⟨Only.of_below hbf, _, rfl, World.ownsRow_nil _ _ _ _, HI.out.below hbf⟩

theorem rdRaw_any (R : Nat) (l : List UInt8) (k st : Nat) (most : Int) (hm : -9223372036854775808 ≤ most ∧ most ≤ 9223372036854775807) (w : World) (h : IsRd w R G l k st) :
    Calls Try.prog 18 #[.pointer (some ⟨R, 0, none⟩), .int .i64 most] w (TextAnswers G R l w (textS l most.toNat k st).1 (textS l most.toNat k st).2.1 (textS l most.toNat k st).2.2) := by
  by_cases hst : st = 0
  · subst hst
    exact rdRaw_ok R l k most hm w h
  · have e : textS l most.toNat k st = ([], st, k) := if_pos hst
    rw [e]
    exact rdRaw_stuck R l k st most w h hst

set_option maxHeartbeats 400000 in
theorem rdEnd_any (R : Nat) (l : List UInt8) (k st : Nat) (w : World) (h : IsRd w R G l k st) :
    Calls Try.prog 20 #[.pointer (some ⟨R, 0, none⟩)] w fun e w' => e = .returned (.int .i64 (endS l k st : Int)) ∧ IsRd w' R G l k (endS l k st : Nat) ∧ Only R w w' := by
  have hf := h.facts
  by_cases hst : st = 0
  · subst hst
    have hA := attempt_any 59 #[] (enters _ (by kernel_rfl)) R l k w h (fun b => b = R) _ _ rfl (fun b hb => by omega)
      (fun w1 hb1 hs1 => end1_any R l k w1 (h.below hb1))
    have HA := Lib.hid hA
    clear hA
    obtain ⟨c, hq⟩ : ∃ c, endS l k 0 = c := ⟨_, rfl⟩
    have HQ := Lib.hid hq
    rw [hq]
    clear hq
    go_enter Try.func20, Try.ntmps20
    go_wp2_with fail
    refine HA.out.mono ?_
    rintro e w' ⟨w2, hsz, ho, ho2, hcase⟩
    have hall : e = .returned (.int .i64 (c : Int)) ∧ IsRd w' R G l k c := by
      have hq := HQ.out
      rcases hcase with ⟨k', rfl, hr, rfl, hlt⟩ | ⟨d, rfl, hr, rfl, hlt⟩
      · simp only [endS, if_neg (show ¬ k' < l.length by omega)] at hq
        subst hq
        exact ⟨rfl, hr⟩
      · simp only [endS, if_pos hlt] at hq
        subst hq
        exact ⟨rfl, hr⟩
    obtain ⟨rfl, hr⟩ := hall
    have HR := Lib.hid hr
    have HO := Lib.hid (ho.only (R := R) fun b _ h => h)
    clear hsz ho ho2 hcase hr HA
    go_wp2
    go_ret
    exact ⟨rfl, HR.out, HO.out⟩
  · have e : endS l k st = st := if_pos hst
    rw [e]
    have hA := attempt_stuck (G := G) 59 #[] R l k st w h (by omega)
    have HA := Lib.hid hA
    have HI := Lib.hid h
    clear hA e h hst
    go_enter Try.func20, Try.ntmps20
    go_wp2_with fail
    refine HA.out.mono ?_
    rintro e w' ⟨rfl, hb⟩
    have HB := Lib.hid hb
    clear hb HA
    go_wp2
    go_ret
    exact ⟨rfl, HI.out.below HB.out, Only.of_below HB.out⟩

end Go.Proofs.Ytboongdoggggoaa
