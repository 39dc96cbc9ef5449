/- A nil reader: attempt, and its calls. -/
import Derived.Test.YtboongdoggggoaaBinMethods2
namespace Go.Proofs.Ytboongdoggggoaa
set_option maxRecDepth 20000
open Go.RowKit BinMath

/-- How attempt ends for a nil reader. w2: the world behind the reading. -/
def NilEnd (S : Nat → Prop) (Ok : Nat → World → Prop) (Bad : Int → World → Prop) (w : World) (e : Ending) (w' : World) : Prop :=
  ∃ w2, OnlyS S w w' ∧ w.heap.size ≤ w2.heap.size ∧ (∀ b, b < w.heap.size → w'.heap[b]? = w2.heap[b]?) ∧ ((∃ k', e = .returned (.int .i64 0) ∧ Ok k' w2) ∨ ∃ c, e = .returned (.int .i64 c) ∧ Bad c w2)

set_option maxHeartbeats 1000000 in
theorem attempt_nil (F : FuncId) (caps : Array Value) (hF : ∀ (args : Array Value) (w : World), (callFunc F args).run Try.prog w = .ok (.enter F args) w)
    (w : World) (S : Nat → Prop) (Ok : Nat → World → Prop) (Bad : Int → World → Prop) (hS : ∀ b, S b → b < w.heap.size)
    (hread : ∀ w1, Below w.heap.size w w1 → IsRd w1 (w.heap.size + 2) 0 [] 0 0 → Calls Try.prog F (#[.pointer (some ⟨w.heap.size + 2, 0, none⟩)] ++ caps) w1 (Reads 0 (w.heap.size + 2) [] (fun b => b = w.heap.size + 2 ∨ S b) Ok Bad w1)) :
    Calls Try.prog 51 #[.pointer none, .func (.func F) #[] caps] w (NilEnd S Ok Bad w) := by
  have hmf : ∀ (fn : Fn) (first cap : Array Value) (w : World), (Instr.makeFunc fn first cap).run Try.prog w = .ok (.func fn first cap) w := fun _ _ _ _ => rfl
  have HRead := Lib.hid hread
  have HS := Lib.hid hS
  clear hread hS
  go_enter Try.func51, Try.ntmps51
  go_wp2_with fail
  obtain ⟨w0, hw0⟩ : ∃ w0, w0 = ((w.alloc (.cells #[.pointer (some ⟨w.heap.size + 1 + 1, 0, none⟩)] 25)).alloc (.cells #[.func (.func F) #[] caps] 100)).alloc (.cells #[.slice none 0 0, .int .i64 0, .int .i64 0] 97) := ⟨_, rfl⟩
  rw [← hw0]
  have hb0 : Below w.heap.size w w0 := by rw [hw0]; exact (((Below.refl _ w).alloc (Nat.le_refl _) _).alloc (by simp) _).alloc (by simp only [World.size_alloc]; omega) _
  have hs0 : w0.heap.size = w.heap.size + 3 := by rw [hw0]; simp
  have b0 : w0.heap[w.heap.size]? = some (.cells #[.pointer (some ⟨w.heap.size + 2, 0, none⟩)] 25 (0, 0)) := by
    rw [hw0, Below.heap_alloc _ _ _ (by simp only [World.size_alloc]; omega), Below.heap_alloc _ _ _ (by simp)]; exact heap_alloc_new w _
  have a0 : w0.heap[w.heap.size + 1]? = some (.cells #[.func (.func F) #[] caps] 100 (0, 0)) := by
    rw [hw0, Below.heap_alloc _ _ _ (by simp only [World.size_alloc]; omega)]
    have := heap_alloc_new (w.alloc (.cells #[.pointer (some ⟨w.heap.size + 1 + 1, 0, none⟩)] 25)) (.cells #[.func (.func F) #[] caps] 100)
    simpa using this
  have r0 : w0.heap[w.heap.size + 2]? = some (.cells #[.slice none 0 0, .int .i64 0, .int .i64 0] 97 (0, 0)) := by
    rw [hw0]
    have := heap_alloc_new ((w.alloc (.cells #[.pointer (some ⟨w.heap.size + 1 + 1, 0, none⟩)] 25)).alloc (.cells #[.func (.func F) #[] caps] 100)) (.cells #[.slice none 0 0, .int .i64 0, .int .i64 0] 97)
    simpa using this
  have hrd : IsRd w0 (w.heap.size + 2) 0 [] 0 0 := ⟨none, 0, r0, Nat.le_refl _, Nat.zero_le _, ⟨Nat.le_refl _, Nat.zero_le _, Nat.zero_le _⟩, .inl ⟨rfl, rfl, rfl⟩⟩
  clear hw0 r0
  have hC := caught_any 95 #[] #[.pointer (some ⟨w.heap.size + 1, 0, none⟩), .pointer (some ⟨w.heap.size, 0, none⟩)] (enters _ (by kernel_rfl)) w0
    (fun c w2 => OnlyS S w w2 ∧ (∃ k', IsRd w2 (w.heap.size + 2) 0 [] k' 0 ∧ (c = 0 → Ok k' w2)) ∧ (c ≠ 0 → Bad c w2) ∧ w.heap.size + 4 ≤ w2.heap.size ∧ w2.heap[w.heap.size]? = w0.heap[w.heap.size]?)
    (fun w1 hb1 hs1 => by
      have hbw : Below w.heap.size w w1 := hb0.trans (hb1.mono (by omega))
      refine (reading_any F caps hF (w.heap.size + 1) w.heap.size (w.heap.size + 2) w1 _ ((hb1.block _ (by omega)).trans a0) ((hb1.block _ (by omega)).trans b0) (HRead.out w1 hbw (hrd.below hb1)) ?_).mono ?_
      · rintro e w2 ⟨k', _, _, ⟨h, _⟩ | ⟨c, _, h, _⟩⟩
        · exact .inl h
        · exact .inr ⟨_, h⟩
      · rintro e w2 ⟨k', hr2, ho2, hcase⟩
        have hfar : ∀ b, w.heap.size ≤ b → b < w1.heap.size → b ≠ w.heap.size + 2 → w2.heap[b]? = w1.heap[b]? := fun b h1 h2 h3 => ho2.block b h2 (fun hs => by rcases hs with hs | hs; exact h3 hs; have := HS.out b hs; omega)
        have hoW : OnlyS S w w2 := OnlyS.then (OnlyS.of_below hbw (fun k hk _ => hk)) ho2 (fun i hi h => by rcases h with h | h; omega; exact h)
        have hsz := ho2.size
        have hkeep : w2.heap[w.heap.size]? = w0.heap[w.heap.size]? := (hfar _ (by omega) (by omega) (by omega)).trans (hb1.block _ (by omega))
        rcases hcase with ⟨rfl, hok⟩ | ⟨c, hc, rfl, hbad⟩
        · exact ⟨0, ⟨fun _ => rfl, fun h => absurd rfl h⟩, ⟨hoW, ⟨k', hr2, fun _ => hok⟩, fun h => absurd rfl h, by omega, hkeep⟩, hsz, hfar _ (by omega) (by omega) (by omega)⟩
        · exact ⟨c, ⟨fun h => absurd h hc, fun _ => rfl⟩, ⟨hoW, ⟨k', hr2, fun h => absurd h hc⟩, fun _ => hbad, by omega, hkeep⟩, hsz, hfar _ (by omega) (by omega) (by omega)⟩)
  have HC := Lib.hid hC
  have hsz0 := Lib.hid hs0
  have HB0 := Lib.hid b0
  clear hC hs0 b0 a0 hb0 hrd
  refine HC.out.mono ?_
  rintro e w3 ⟨c, w2, ⟨hoW, ⟨k', hr2, hok⟩, hbad, hsz, hkeep⟩, rfl, hsz2, ho3⟩
  rw [hsz0.out] at ho3
  have hR3 : IsRd w3 (w.heap.size + 2) 0 [] k' 0 := hr2.only ho3 (fun b hb he => by omega) (by omega)
  have b3 : w3.heap[w.heap.size]? = some (.cells #[.pointer (some ⟨w.heap.size + 2, 0, none⟩)] 25 (0, 0)) := ((ho3.block _ (by omega) (by omega)).trans hkeep).trans HB0.out
  have cB : w3.cell? ⟨w.heap.size, 0, none⟩ = some (.pointer (some ⟨w.heap.size + 2, 0, none⟩)) := by rw [cell_of_heap b3]; rfl
  have hoT : OnlyS S w w3 := hoW.then ho3 fun b hb h => by omega
  have hsame : ∀ b, b < w.heap.size → w3.heap[b]? = w2.heap[b]? := fun b hb => ho3.block b (by omega) (by omega)
  have HR3 := Lib.hid hR3
  have HoT := Lib.hid hoT
  have HSz := Lib.hid (show w.heap.size ≤ w2.heap.size by omega)
  have HSame := Lib.hid hsame
  clear hoW hr2 hkeep hsz hsz2 ho3 b3 HC HB0 hR3 hoT hsame
  by_cases hc : c = 0
  · subst hc
    have HOk := Lib.hid (hok rfl)
    clear hok hbad
    go_wp2
    go_ret
    exact ⟨w2, HoT.out, HSz.out, HSame.out, .inl ⟨k', rfl, HOk.out⟩⟩
  · have i0 : (c != 0) = true := by simpa using hc
    have i1 : (c == 0) = false := by simpa using hc
    have HBad := Lib.hid (hbad hc)
    have HR4 := HR3.out
    obtain ⟨b', cap', hRh, -⟩ := HR4
    have r1 : w3.cell? ⟨w.heap.size + 2, 1, none⟩ = some (.int .i64 (k' : Int)) := by rw [cell_of_heap hRh]; rfl
    have r2 : w3.cell? ⟨w.heap.size + 2, 2, none⟩ = some (.int .i64 0) := by rw [cell_of_heap hRh]; rfl
    have f1 : w3.frozen? ⟨w.heap.size + 2, 1, none⟩ = false := free_of_heap hRh
    have f2 : w3.frozen? ⟨w.heap.size + 2, 2, none⟩ = false := free_of_heap hRh
    clear hok hbad hc hRh
    go_wp2
    go_region
    all_goals go_wp2
    all_goals go_ret
    all_goals exact ⟨w2, (HoT.out.setCell (p := ⟨w.heap.size + 2, 1, none⟩) (fun h => by simp at h; omega) _).setCell (p := ⟨w.heap.size + 2, 2, none⟩) (fun h => by simp at h; omega) _ |>.drew, HSz.out, fun b hb => ((heap_set_other (by omega) _).trans (heap_set_other (by omega) _)).trans (HSame.out b hb), .inr ⟨c, rfl, HBad.out⟩⟩

/-- A nil reader's number. -/
theorem nilNum_any (w : World) : Calls Try.prog 16 #[.pointer none] w fun e w' => e = .returned (.tuple #[.int .u64 0, .int .i64 2]) ∧ Below w.heap.size w w' := by
  have hmf : ∀ (fn : Fn) (first cap : Array Value) (w : World), (Instr.makeFunc fn first cap).run Try.prog w = .ok (.func fn first cap) w := fun _ _ _ _ => rfl
  have hA := attempt_nil 55 #[.pointer (some ⟨w.heap.size, 0, none⟩)] (enters _ (by kernel_rfl)) (w.alloc (.cells #[.int .u64 0] 33)) (fun b => b = w.heap.size) _ _ (fun b hb => by rw [World.size_alloc]; omega)
    (fun w1 hb1 hr => by
      have hN : OneVar w1 w.heap.size 33 (.int .u64 0) := by
        unfold OneVar
        rw [hb1.block _ (by simp)]
        exact heap_alloc_new w _
      exact num1_any _ w.heap.size [] 0 w1 hr hN (by rw [World.size_alloc]; omega) (Nat.zero_le _))
  have HB0 : Below w.heap.size w (w.alloc (.cells #[.int .u64 0] 33)) := (Below.refl _ _).alloc (Nat.le_refl _) _
  have HA := Lib.hid hA
  clear hA
  go_enter Try.func16, Try.ntmps16
  go_wp2_with fail
  refine HA.out.mono ?_
  rintro e w' ⟨w2, ho, hsz, hsame, hcase⟩
  have hN' : w'.heap[w.heap.size]? = w2.heap[w.heap.size]? := hsame _ (by simp)
  have hbw : Below w.heap.size w w' := by
    have h1 : Below w.heap.size (w.alloc (.cells #[.int .u64 0] 33)) w' := ho.below (fun k hk hs => by omega) (by simp)
    exact HB0.trans h1
  have hall : e = .returned (.int .i64 2) ∧ OneVar w' (w.heap.size) 33 (.int .u64 0) := by
    rcases hcase with ⟨k', rfl, m, u, hp, -⟩ | ⟨c, rfl, c', rfl, hp, hv⟩
    · cases hp
    · cases hp
      exact ⟨rfl, hN'.trans hv⟩
  obtain ⟨rfl, hv⟩ := hall
  have cN : w'.cell? ⟨w.heap.size, 0, none⟩ = some (.int .u64 0) := by rw [cell_of_heap hv]; rfl
  have fN : w'.frozen? ⟨w.heap.size, 0, none⟩ = false := free_of_heap hv
  have HV := Lib.hid hv
  have HBw := Lib.hid hbw
  clear ho hsz hsame hcase hN' hbw hv HA
  go_wp2
  have cE : (w'.setCell ⟨w.heap.size, 0, none⟩ (.int .u64 0)).cell? ⟨w.heap.size, 0, none⟩ = some (.int .u64 0) := by rw [cell_of_heap (heap_set_same HV.out _)]; rfl
  exact bodyPost_ret (v := .tuple #[.int .u64 0, .int .i64 2]) (by simp [results, Try.results16, go_sem, cE]) rfl ⟨rfl, HBw.out.setCell (by simp) _⟩

/-- A nil reader's byte. -/
theorem nilByte_any (w : World) : Calls Try.prog 14 #[.pointer none] w fun e w' => e = .returned (.tuple #[.int .u8 0, .int .i64 2]) ∧ Below w.heap.size w w' := by
  have hmf : ∀ (fn : Fn) (first cap : Array Value) (w : World), (Instr.makeFunc fn first cap).run Try.prog w = .ok (.func fn first cap) w := fun _ _ _ _ => rfl
  have hA := attempt_nil 52 #[.pointer (some ⟨w.heap.size, 0, none⟩)] (enters _ (by kernel_rfl)) (w.alloc (.cells #[.int .u8 0] 5)) (fun b => b = w.heap.size) _ _ (fun b hb => by rw [World.size_alloc]; omega)
    (fun w1 hb1 hr => by
      have hN : OneVar w1 w.heap.size 5 (.int .u8 0) := by
        unfold OneVar
        rw [hb1.block _ (by simp)]
        exact heap_alloc_new w _
      exact byte1_any _ w.heap.size [] 0 w1 hr hN (by rw [World.size_alloc]; omega) (Nat.zero_le _))
  have HB0 : Below w.heap.size w (w.alloc (.cells #[.int .u8 0] 5)) := (Below.refl _ _).alloc (Nat.le_refl _) _
  have HA := Lib.hid hA
  clear hA
  go_enter Try.func14, Try.ntmps14
  go_wp2_with fail
  refine HA.out.mono ?_
  rintro e w' ⟨w2, ho, hsz, hsame, hcase⟩
  have hN' : w'.heap[w.heap.size]? = w2.heap[w.heap.size]? := hsame _ (by simp)
  have hbw : Below w.heap.size w w' := by
    have h1 : Below w.heap.size (w.alloc (.cells #[.int .u8 0] 5)) w' := ho.below (fun k hk hs => by omega) (by simp)
    exact HB0.trans h1
  have hall : e = .returned (.int .i64 2) ∧ OneVar w' (w.heap.size) 5 (.int .u8 0) := by
    rcases hcase with ⟨k', rfl, hlt, -⟩ | ⟨c, rfl, rfl, -, hv⟩
    · simp at hlt
    · exact ⟨rfl, hN'.trans hv⟩
  obtain ⟨rfl, hv⟩ := hall
  have cN : w'.cell? ⟨w.heap.size, 0, none⟩ = some (.int .u8 0) := by rw [cell_of_heap hv]; rfl
  have fN : w'.frozen? ⟨w.heap.size, 0, none⟩ = false := free_of_heap hv
  have HV := Lib.hid hv
  have HBw := Lib.hid hbw
  clear ho hsz hsame hcase hN' hbw hv HA
  go_wp2
  have cE : (w'.setCell ⟨w.heap.size, 0, none⟩ (.int .u8 0)).cell? ⟨w.heap.size, 0, none⟩ = some (.int .u8 0) := by rw [cell_of_heap (heap_set_same HV.out _)]; rfl
  exact bodyPost_ret (v := .tuple #[.int .u8 0, .int .i64 2]) (by simp [results, Try.results14, go_sem, cE]) rfl ⟨rfl, HBw.out.setCell (by simp) _⟩

/-- A nil reader's text. -/
theorem nilRaw_any (most : Int) (hm : -9223372036854775808 ≤ most ∧ most ≤ 9223372036854775807) (w : World) : Calls Try.prog 18 #[.pointer none, .int .i64 most] w fun e w' => e = .returned (.tuple #[.slice none 0 0, .int .i64 2]) ∧ Below w.heap.size w w' := by
  have hmf : ∀ (fn : Fn) (first cap : Array Value) (w : World), (Instr.makeFunc fn first cap).run Try.prog w = .ok (.func fn first cap) w := fun _ _ _ _ => rfl
  obtain ⟨w0, hw0⟩ : ∃ w0, w0 = (w.alloc (.cells #[.int .i64 most] 3)).alloc (.cells #[.slice none 0 0] 22) := ⟨_, rfl⟩
  have HB0 : Below w.heap.size w w0 := by rw [hw0]; exact ((Below.refl _ _).alloc (Nat.le_refl _) _).alloc (by simp) _
  have hs0 : w0.heap.size = w.heap.size + 2 := by rw [hw0]; simp
  have hM : OneVar w0 w.heap.size 3 (.int .i64 most) := by
    unfold OneVar
    rw [hw0, Below.heap_alloc _ _ _ (by simp)]
    exact heap_alloc_new w _
  have hN : OneVar w0 (w.heap.size + 1) 22 (.slice none 0 0) := by
    unfold OneVar
    rw [hw0]
    have := heap_alloc_new (w.alloc (.cells #[.int .i64 most] 3)) (.cells #[.slice none 0 0] 22)
    simpa using this
  have hA := attempt_nil 57 #[.pointer (some ⟨w.heap.size, 0, none⟩), .pointer (some ⟨w.heap.size + 1, 0, none⟩)] (enters _ (by kernel_rfl)) w0 (fun b => b = w.heap.size + 1) (fun _ _ => ∃ t u, pText most.toNat (List.drop 0 []) = .ok (t, u)) (fun c w2 => ∃ c' : Nat, c = c' ∧ pText most.toNat (List.drop 0 []) = .error c' ∧ OneVar w2 (w.heap.size + 1) 22 (.slice none 0 0)) (fun b hb => by omega)
    (fun w1 hb1 hr => (raw1_any _ w.heap.size (w.heap.size + 1) [] 0 most w1 hr hm ((hb1.block _ (by omega)).trans hM) ((hb1.block _ (by omega)).trans hN) (by omega) (Nat.zero_le _)).mono fun e w2 ⟨k', h1, h2, h3⟩ => ⟨k', h1, h2, h3.imp (fun ⟨h4, t, u, v, h5, _⟩ => ⟨h4, t, u, h5⟩) id⟩)
  have HS0 := Lib.hid hs0
  clear hM hN hs0
  have HA := Lib.hid hA
  clear hA
  go_enter Try.func18, Try.ntmps18
  go_wp2_with fail
  rw [← hw0]
  clear hw0
  refine HA.out.mono ?_
  rintro e w' ⟨w2, ho, hsz, hsame, hcase⟩
  have hN' : w'.heap[w.heap.size + 1]? = w2.heap[w.heap.size + 1]? := hsame _ (by rw [HS0.out]; omega)
  have hbw : Below w.heap.size w w' := by
    have h1 : Below w.heap.size (w0) w' := ho.below (fun k hk hs => by omega) (by rw [HS0.out]; omega)
    exact HB0.trans h1
  have hall : e = .returned (.int .i64 2) ∧ OneVar w' (w.heap.size + 1) 22 (.slice none 0 0) := by
    rcases hcase with ⟨k', rfl, t, u, hp⟩ | ⟨c, rfl, c', rfl, hp, hv⟩
    · cases hp
    · cases hp
      exact ⟨rfl, hN'.trans hv⟩
  obtain ⟨rfl, hv⟩ := hall
  have cN : w'.cell? ⟨w.heap.size + 1, 0, none⟩ = some (.slice none 0 0) := by rw [cell_of_heap hv]; rfl
  have fN : w'.frozen? ⟨w.heap.size + 1, 0, none⟩ = false := free_of_heap hv
  have HV := Lib.hid hv
  have HBw := Lib.hid hbw
  clear ho hsz hsame hcase hN' hbw hv HA
  go_wp2
  have cE : (w'.setCell ⟨w.heap.size + 1, 0, none⟩ (.slice none 0 0)).cell? ⟨w.heap.size + 1, 0, none⟩ = some (.slice none 0 0) := by rw [cell_of_heap (heap_set_same HV.out _)]; rfl
  exact bodyPost_ret (v := .tuple #[.slice none 0 0, .int .i64 2]) (by simp [results, Try.results18, go_sem, cE]) rfl ⟨rfl, HBw.out.setCell (by simp) _⟩

/-- A nil reader's end. -/
theorem nilEnd_any (w : World) : Calls Try.prog 20 #[.pointer none] w fun e w' => e = .returned (.int .i64 0) ∧ Below w.heap.size w w' := by
  have hA := attempt_nil 59 #[] (enters _ (by kernel_rfl)) w (fun _ => False) _ _ (fun b hb => hb.elim)
    (fun w1 hb1 hr => (end1_any _ [] 0 w1 hr).mono fun e w2 ⟨k', h1, h2, h3⟩ => ⟨k', h1, h2.mono (fun k _ h => .inl h), h3⟩)
  have HA := Lib.hid hA
  clear hA
  go_enter Try.func20, Try.ntmps20
  go_wp2_with fail
  refine HA.out.mono ?_
  rintro e w' ⟨w2, ho, hsz, hsame, hcase⟩
  have hbw : Below w.heap.size w w' := ho.below (fun k hk hs => hs) (Nat.le_refl _)
  have hall : e = .returned (.int .i64 0) := by
    rcases hcase with ⟨k', rfl, -⟩ | ⟨c, rfl, rfl, hlt⟩
    · rfl
    · simp at hlt
  subst hall
  have HBw := Lib.hid hbw
  clear ho hsz hsame hcase hbw HA
  go_wp2
  go_ret
  exact ⟨rfl, HBw.out⟩

theorem nilLeft_any (w : World) : Calls Try.prog 22 #[.pointer none] w fun e w' => e = .returned (.int .i64 0) ∧ w' = w := by
  go_enter Try.func22, Try.ntmps22
  go_wp2
  go_ret
  exact ⟨rfl, rfl⟩

end Go.Proofs.Ytboongdoggggoaa
