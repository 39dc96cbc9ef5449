/- A nil reader: attempt, and its calls. -/
import Derived.Test.YtleoiklcddkgdaaBinMethods2
namespace Go.Proofs.Ytleoiklcddkgdaa
open Go.RowKit BinMath

/-- How attempt ends for a nil reader. w2: the world behind the reading. -/
def NilEnd (S : Nat → Prop) (Ok : Nat → World → Prop) (Bad : Int → World → Prop) (w : World) (e : Ending) (w' : World) : Prop :=
  ∃ w2, OnlyS S w w' ∧ w.heap.size ≤ w2.heap.size ∧ (∀ b, b < w.heap.size → w'.heap[b]? = w2.heap[b]?) ∧ ((∃ k', e = .returned (.int .i64 0) ∧ Ok k' w2) ∨ ∃ c, e = .returned (.int .i64 c) ∧ Bad c w2)

set_option maxHeartbeats 1000000 in
theorem attempt_nil (F : FuncId) (caps : Array Value) (hF : ∀ (args : Array Value) (w : World), (callFunc F args).run Try.prog w = .ok (.enter F args) w)
    (w : World) (S : Nat → Prop) (Ok : Nat → World → Prop) (Bad : Int → World → Prop) (hS : ∀ b, S b → b < w.heap.size)
    (hread : ∀ w1, Below w.heap.size w w1 → IsRd w1 (w.heap.size + 2) 0 [] 0 0 → Calls Try.prog F (#[.pointer (some ⟨w.heap.size + 2, 0, none⟩)] ++ caps) w1 (Reads 0 (w.heap.size + 2) [] (fun b => b = w.heap.size + 2 ∨ S b) Ok Bad w1)) :
    Calls Try.prog 48 #[.pointer none, .func (.func F) #[] caps] w (NilEnd S Ok Bad w) := by
  have hmf : ∀ (fn : Fn) (first cap : Array Value) (w : World), (Instr.makeFunc fn first cap).run Try.prog w = .ok (.func fn first cap) w := fun _ _ _ _ => rfl
  have HRead := Lib.hid hread
  have HS := Lib.hid hS
  clear hread hS
  go_enter_defers Try.func48, Try.ntmps48
  go_wp2_with fail
  obtain ⟨w1, hw1⟩ : ∃ w1, w1 = (((w.alloc (.cells #[.pointer (some ⟨w.heap.size + 1 + 1, 0, none⟩)] 50)).alloc (.cells #[.int .i64 0] 29)).alloc (.cells #[.slice none 0 0, .int .i64 0, .int .i64 0] 64)).alloc (.cells #[.int .i64 0] 3) := ⟨_, rfl⟩
  rw [← hw1]
  have hb1 : Below w.heap.size w w1 := by rw [hw1]; exact ((((Below.refl _ w).alloc (Nat.le_refl _) _).alloc (by simp) _).alloc (by simp only [World.size_alloc]; omega) _).alloc (by simp only [World.size_alloc]; omega) _
  have hs1 : w1.heap.size = w.heap.size + 4 := by rw [hw1]; simp
  have b0 : w1.heap[w.heap.size]? = some (.cells #[.pointer (some ⟨w.heap.size + 1 + 1, 0, none⟩)] 50 (0, 0)) := by
    rw [hw1, Below.heap_alloc _ _ _ (by simp only [World.size_alloc]; omega), Below.heap_alloc _ _ _ (by simp only [World.size_alloc]; omega), Below.heap_alloc _ _ _ (by simp)]; exact heap_alloc_new w _
  have e0 : w1.heap[w.heap.size + 1]? = some (.cells #[.int .i64 0] 29 (0, 0)) := by
    rw [hw1, Below.heap_alloc _ _ _ (by simp only [World.size_alloc]; omega), Below.heap_alloc _ _ _ (by simp only [World.size_alloc]; omega)]
    have := heap_alloc_new (w.alloc (.cells #[.pointer (some ⟨w.heap.size + 1 + 1, 0, none⟩)] 50)) (.cells #[.int .i64 0] 29)
    simpa using this
  have r0 : w1.heap[w.heap.size + 1 + 1]? = some (.cells #[.slice none 0 0, .int .i64 0, .int .i64 0] 64 (0, 0)) := by
    rw [hw1, Below.heap_alloc _ _ _ (by simp only [World.size_alloc]; omega)]
    have := heap_alloc_new ((w.alloc (.cells #[.pointer (some ⟨w.heap.size + 1 + 1, 0, none⟩)] 50)).alloc (.cells #[.int .i64 0] 29)) (.cells #[.slice none 0 0, .int .i64 0, .int .i64 0] 64)
    simpa using this
  have a0 : w1.heap[w.heap.size + 1 + 1 + 1]? = some (.cells #[.int .i64 ((0 : Nat) : Int)] 3 (0, 0)) := by
    rw [hw1]
    have := heap_alloc_new (((w.alloc (.cells #[.pointer (some ⟨w.heap.size + 1 + 1, 0, none⟩)] 50)).alloc (.cells #[.int .i64 0] 29)).alloc (.cells #[.slice none 0 0, .int .i64 0, .int .i64 0] 64)) (.cells #[.int .i64 0] 3)
    simpa using this
  have hrd : IsRd w1 (w.heap.size + 2) 0 [] 0 0 := ⟨none, 0, r0, Nat.le_refl _, Nat.zero_le _, ⟨Nat.le_refl _, Nat.zero_le _, Nat.zero_le _⟩, .inl ⟨rfl, rfl, rfl⟩⟩
  clear hw1 r0
  refine (HRead.out w1 hb1 hrd).mono ?_
  rintro e w2 ⟨k', hr2, ho2, hcase⟩
  have hfar : ∀ b, w.heap.size ≤ b → b < w.heap.size + 4 → b ≠ w.heap.size + 2 → w2.heap[b]? = w1.heap[b]? := fun b h1 h2 h3 => ho2.block b (by omega) (fun hs => by rcases hs with hs | hs; exact h3 hs; have := HS.out b hs; omega)
  have b2 := (hfar w.heap.size (by omega) (by omega) (by omega)).trans b0
  have e2 := (hfar (w.heap.size + 1) (by omega) (by omega) (by omega)).trans e0
  have a2 := (hfar (w.heap.size + 1 + 1 + 1) (by omega) (by omega) (by omega)).trans a0
  have hs2 : w1.heap.size ≤ w2.heap.size := ho2.size
  have hoW : OnlyS S w w2 := OnlyS.then (OnlyS.of_below hb1 (fun k hk _ => hk)) ho2 (fun i hi h => by rcases h with h | h; omega; exact h)
  clear b0 e0 a0 hfar hb1 ho2
  rcases hcase with ⟨rfl, hok⟩ | ⟨c, rfl, hbad⟩
  · have ce : w2.cell? ⟨w.heap.size + 1, 0, none⟩ = some (.int .i64 0) := by rw [cell_of_heap e2]; rfl
    have fe : w2.frozen? ⟨w.heap.size + 1, 0, none⟩ = false := free_of_heap e2
    have HE := Lib.hid e2
    have HOk := Lib.hid hok
    have HoW := Lib.hid hoW
    have Hs2 := Lib.hid (show w.heap.size + 4 ≤ w2.heap.size by omega)
    clear b2 e2 a2 HRead hr2 hok hoW hs1 hs2 hrd
    go_wp2
    refine leaves_cons (f := 63) (args := #[.pointer (some ⟨w.heap.size + 1 + 1 + 1, 0, none⟩), .pointer (some ⟨w.heap.size, 0, none⟩), .pointer (some ⟨w.heap.size + 1, 0, none⟩)]) (by simp) (by simp [go_sem]) ?_
    refine (caught_idle _ _ _ _).mono ?_
    rintro e u' w3 ⟨rfl, rfl, rfl⟩
    have cE : (w2.setCell ⟨w.heap.size + 1, 0, none⟩ (.int .i64 0)).cell? ⟨w.heap.size + 1, 0, none⟩ = some (.int .i64 0) := by rw [cell_of_heap (heap_set_same HE.out _)]; rfl
    have fin : NilEnd S Ok Bad w (.returned (.int .i64 0)) (w2.setCell ⟨w.heap.size + 1, 0, none⟩ (.int .i64 0)) :=
      ⟨w2, HoW.out.setCell (fun h => by simp at h; omega) _, by have := Hs2.out; omega, fun b hb => heap_set_other (by omega) _, .inl ⟨k', rfl, HOk.out⟩⟩
    clear ce fe
    simp [Leaves, settle, results, Try.results48, go_sem, cE, fin]
  · have HBad := Lib.hid hbad
    have HoW := Lib.hid hoW
    have sz : w.heap.size + 4 ≤ w2.heap.size := by omega
    clear hbad hoW hs1 hs2 HRead hrd
    refine leaves_cons (f := 63) (args := #[.pointer (some ⟨w.heap.size + 1 + 1 + 1, 0, none⟩), .pointer (some ⟨w.heap.size, 0, none⟩), .pointer (some ⟨w.heap.size + 1, 0, none⟩)]) (by simp) (by simp [go_sem]) ?_
    refine (caught_one (G := 0) (w.heap.size + 1 + 1 + 1) w.heap.size (w.heap.size + 1) (w.heap.size + 1 + 1) (Nat.zero_le _) [] 0 k' c 0 w2 hr2 (Nat.zero_le _) a2 b2 e2 (by omega)).mono ?_
    rintro e u' w3 ⟨rfl, rfl, hc⟩
    have cE : w3.cell? ⟨w.heap.size + 1, 0, none⟩ = some (.int .i64 c) := by rw [cell_of_heap hc.2.1]; rfl
    have fin : NilEnd S Ok Bad w (.returned (.int .i64 c)) w3 :=
      ⟨w2, HoW.out.then hc.2.2 (fun b hb h => by rcases h with rfl | rfl <;> omega), by omega, fun b hb => hc.2.2.block b (by omega) (fun h => by rcases h with rfl | rfl <;> omega), .inr ⟨c, rfl, HBad.out⟩⟩
    simp [Leaves, settle, results, Try.results48, go_sem, cE, fin]

/-- A nil reader's number. -/
theorem nilNum_any (w : World) : Calls Try.prog 41 #[.pointer none] w fun e w' => e = .returned (.tuple #[.int .u64 0, .int .i64 2]) ∧ Below w.heap.size w w' := by
  have hmf : ∀ (fn : Fn) (first cap : Array Value) (w : World), (Instr.makeFunc fn first cap).run Try.prog w = .ok (.func fn first cap) w := fun _ _ _ _ => rfl
  have hA := attempt_nil 57 #[.pointer (some ⟨w.heap.size, 0, none⟩)] (enters _ (by kernel_rfl)) (w.alloc (.cells #[.int .u64 0] 22)) (fun b => b = w.heap.size) _ _ (fun b hb => by rw [World.size_alloc]; omega)
    (fun w1 hb1 hr => by
      have hN : OneVar w1 w.heap.size 22 (.int .u64 0) := by
        unfold OneVar
        rw [hb1.block _ (by simp)]
        exact heap_alloc_new w _
      exact num1_any _ w.heap.size [] 0 w1 hr hN (by rw [World.size_alloc]; omega) (Nat.zero_le _))
  have HB0 : Below w.heap.size w (w.alloc (.cells #[.int .u64 0] 22)) := (Below.refl _ _).alloc (Nat.le_refl _) _
  have HA := Lib.hid hA
  clear hA
  go_enter Try.func41, Try.ntmps41
  go_wp2_with fail
  refine HA.out.mono ?_
  rintro e w' ⟨w2, ho, hsz, hsame, hcase⟩
  have hN' : w'.heap[w.heap.size]? = w2.heap[w.heap.size]? := hsame _ (by simp)
  have hbw : Below w.heap.size w w' := by
    have h1 : Below w.heap.size (w.alloc (.cells #[.int .u64 0] 22)) w' := ho.below (fun k hk hs => by omega) (by simp)
    exact HB0.trans h1
  have hall : e = .returned (.int .i64 2) ∧ OneVar w' (w.heap.size) 22 (.int .u64 0) := by
    rcases hcase with ⟨k', rfl, m, u, hp, -⟩ | ⟨c, rfl, c', rfl, hp, hv⟩
    · cases hp
    · cases hp
      exact ⟨rfl, hN'.trans hv⟩
  obtain ⟨rfl, hv⟩ := hall
  have cN : w'.cell? ⟨w.heap.size, 0, none⟩ = some (.int .u64 0) := by rw [cell_of_heap hv]; rfl
  have fN : w'.frozen? ⟨w.heap.size, 0, none⟩ = false := free_of_heap hv
  have HV := Lib.hid hv
  have HBw := Lib.hid hbw
  clear ho hsz hsame hcase hN' hbw hv HA
  go_wp2
  have cE : (w'.setCell ⟨w.heap.size, 0, none⟩ (.int .u64 0)).cell? ⟨w.heap.size, 0, none⟩ = some (.int .u64 0) := by rw [cell_of_heap (heap_set_same HV.out _)]; rfl
  exact bodyPost_ret (v := .tuple #[.int .u64 0, .int .i64 2]) (by simp [results, Try.results41, go_sem, cE]) rfl ⟨rfl, HBw.out.setCell (by simp) _⟩

/-- A nil reader's byte. -/
theorem nilByte_any (w : World) : Calls Try.prog 44 #[.pointer none] w fun e w' => e = .returned (.tuple #[.int .u8 0, .int .i64 2]) ∧ Below w.heap.size w w' := by
  have hmf : ∀ (fn : Fn) (first cap : Array Value) (w : World), (Instr.makeFunc fn first cap).run Try.prog w = .ok (.func fn first cap) w := fun _ _ _ _ => rfl
  have hA := attempt_nil 59 #[.pointer (some ⟨w.heap.size, 0, none⟩)] (enters _ (by kernel_rfl)) (w.alloc (.cells #[.int .u8 0] 5)) (fun b => b = w.heap.size) _ _ (fun b hb => by rw [World.size_alloc]; omega)
    (fun w1 hb1 hr => by
      have hN : OneVar w1 w.heap.size 5 (.int .u8 0) := by
        unfold OneVar
        rw [hb1.block _ (by simp)]
        exact heap_alloc_new w _
      exact byte1_any _ w.heap.size [] 0 w1 hr hN (by rw [World.size_alloc]; omega) (Nat.zero_le _))
  have HB0 : Below w.heap.size w (w.alloc (.cells #[.int .u8 0] 5)) := (Below.refl _ _).alloc (Nat.le_refl _) _
  have HA := Lib.hid hA
  clear hA
  go_enter Try.func44, Try.ntmps44
  go_wp2_with fail
  refine HA.out.mono ?_
  rintro e w' ⟨w2, ho, hsz, hsame, hcase⟩
  have hN' : w'.heap[w.heap.size]? = w2.heap[w.heap.size]? := hsame _ (by simp)
  have hbw : Below w.heap.size w w' := by
    have h1 : Below w.heap.size (w.alloc (.cells #[.int .u8 0] 5)) w' := ho.below (fun k hk hs => by omega) (by simp)
    exact HB0.trans h1
  have hall : e = .returned (.int .i64 2) ∧ OneVar w' (w.heap.size) 5 (.int .u8 0) := by
    rcases hcase with ⟨k', rfl, hlt, -⟩ | ⟨c, rfl, rfl, -, hv⟩
    · simp at hlt
    · exact ⟨rfl, hN'.trans hv⟩
  obtain ⟨rfl, hv⟩ := hall
  have cN : w'.cell? ⟨w.heap.size, 0, none⟩ = some (.int .u8 0) := by rw [cell_of_heap hv]; rfl
  have fN : w'.frozen? ⟨w.heap.size, 0, none⟩ = false := free_of_heap hv
  have HV := Lib.hid hv
  have HBw := Lib.hid hbw
  clear ho hsz hsame hcase hN' hbw hv HA
  go_wp2
  have cE : (w'.setCell ⟨w.heap.size, 0, none⟩ (.int .u8 0)).cell? ⟨w.heap.size, 0, none⟩ = some (.int .u8 0) := by rw [cell_of_heap (heap_set_same HV.out _)]; rfl
  exact bodyPost_ret (v := .tuple #[.int .u8 0, .int .i64 2]) (by simp [results, Try.results44, go_sem, cE]) rfl ⟨rfl, HBw.out.setCell (by simp) _⟩

/-- A nil reader's text. -/
theorem nilRaw_any (most : Int) (hm : -9223372036854775808 ≤ most ∧ most ≤ 9223372036854775807) (w : World) : Calls Try.prog 46 #[.pointer none, .int .i64 most] w fun e w' => e = .returned (.tuple #[.slice none 0 0, .int .i64 2]) ∧ Below w.heap.size w w' := by
  have hmf : ∀ (fn : Fn) (first cap : Array Value) (w : World), (Instr.makeFunc fn first cap).run Try.prog w = .ok (.func fn first cap) w := fun _ _ _ _ => rfl
  obtain ⟨w0, hw0⟩ : ∃ w0, w0 = (w.alloc (.cells #[.int .i64 most] 3)).alloc (.cells #[.slice none 0 0] 23) := ⟨_, rfl⟩
  have HB0 : Below w.heap.size w w0 := by rw [hw0]; exact ((Below.refl _ _).alloc (Nat.le_refl _) _).alloc (by simp) _
  have hs0 : w0.heap.size = w.heap.size + 2 := by rw [hw0]; simp
  have hM : OneVar w0 w.heap.size 3 (.int .i64 most) := by
    unfold OneVar
    rw [hw0, Below.heap_alloc _ _ _ (by simp)]
    exact heap_alloc_new w _
  have hN : OneVar w0 (w.heap.size + 1) 23 (.slice none 0 0) := by
    unfold OneVar
    rw [hw0]
    have := heap_alloc_new (w.alloc (.cells #[.int .i64 most] 3)) (.cells #[.slice none 0 0] 23)
    simpa using this
  have hA := attempt_nil 61 #[.pointer (some ⟨w.heap.size, 0, none⟩), .pointer (some ⟨w.heap.size + 1, 0, none⟩)] (enters _ (by kernel_rfl)) w0 (fun b => b = w.heap.size + 1) (fun _ _ => ∃ t u, pText most.toNat (List.drop 0 []) = .ok (t, u)) (fun c w2 => ∃ c' : Nat, c = c' ∧ pText most.toNat (List.drop 0 []) = .error c' ∧ OneVar w2 (w.heap.size + 1) 23 (.slice none 0 0)) (fun b hb => by omega)
    (fun w1 hb1 hr => (raw1_any _ w.heap.size (w.heap.size + 1) [] 0 most w1 hr hm ((hb1.block _ (by omega)).trans hM) ((hb1.block _ (by omega)).trans hN) (by omega) (Nat.zero_le _)).mono fun e w2 ⟨k', h1, h2, h3⟩ => ⟨k', h1, h2, h3.imp (fun ⟨h4, t, u, v, h5, _⟩ => ⟨h4, t, u, h5⟩) id⟩)
  have HS0 := Lib.hid hs0
  clear hM hN hs0
  have HA := Lib.hid hA
  clear hA
  go_enter Try.func46, Try.ntmps46
  go_wp2_with fail
  rw [← hw0]
  clear hw0
  refine HA.out.mono ?_
  rintro e w' ⟨w2, ho, hsz, hsame, hcase⟩
  have hN' : w'.heap[w.heap.size + 1]? = w2.heap[w.heap.size + 1]? := hsame _ (by rw [HS0.out]; omega)
  have hbw : Below w.heap.size w w' := by
    have h1 : Below w.heap.size (w0) w' := ho.below (fun k hk hs => by omega) (by rw [HS0.out]; omega)
    exact HB0.trans h1
  have hall : e = .returned (.int .i64 2) ∧ OneVar w' (w.heap.size + 1) 23 (.slice none 0 0) := by
    rcases hcase with ⟨k', rfl, t, u, hp⟩ | ⟨c, rfl, c', rfl, hp, hv⟩
    · cases hp
    · cases hp
      exact ⟨rfl, hN'.trans hv⟩
  obtain ⟨rfl, hv⟩ := hall
  have cN : w'.cell? ⟨w.heap.size + 1, 0, none⟩ = some (.slice none 0 0) := by rw [cell_of_heap hv]; rfl
  have fN : w'.frozen? ⟨w.heap.size + 1, 0, none⟩ = false := free_of_heap hv
  have HV := Lib.hid hv
  have HBw := Lib.hid hbw
  clear ho hsz hsame hcase hN' hbw hv HA
  go_wp2
  have cE : (w'.setCell ⟨w.heap.size + 1, 0, none⟩ (.slice none 0 0)).cell? ⟨w.heap.size + 1, 0, none⟩ = some (.slice none 0 0) := by rw [cell_of_heap (heap_set_same HV.out _)]; rfl
  exact bodyPost_ret (v := .tuple #[.slice none 0 0, .int .i64 2]) (by simp [results, Try.results46, go_sem, cE]) rfl ⟨rfl, HBw.out.setCell (by simp) _⟩

/-- A nil reader's end. -/
theorem nilEnd_any (w : World) : Calls Try.prog 33 #[.pointer none] w fun e w' => e = .returned (.int .i64 0) ∧ Below w.heap.size w w' := by
  have hA := attempt_nil 49 #[] (enters _ (by kernel_rfl)) w (fun _ => False) _ _ (fun b hb => hb.elim)
    (fun w1 hb1 hr => (end1_any _ [] 0 w1 hr).mono fun e w2 ⟨k', h1, h2, h3⟩ => ⟨k', h1, h2.mono (fun k _ h => .inl h), h3⟩)
  have HA := Lib.hid hA
  clear hA
  go_enter Try.func33, Try.ntmps33
  go_wp2_with fail
  refine HA.out.mono ?_
  rintro e w' ⟨w2, ho, hsz, hsame, hcase⟩
  have hbw : Below w.heap.size w w' := ho.below (fun k hk hs => hs) (Nat.le_refl _)
  have hall : e = .returned (.int .i64 0) := by
    rcases hcase with ⟨k', rfl, -⟩ | ⟨c, rfl, rfl, hlt⟩
    · rfl
    · simp at hlt
  subst hall
  have HBw := Lib.hid hbw
  clear ho hsz hsame hcase hbw HA
  go_wp2
  go_ret
  exact ⟨rfl, HBw.out⟩

theorem nilLeft_any (w : World) : Calls Try.prog 50 #[.pointer none] w fun e w' => e = .returned (.int .i64 0) ∧ w' = w := by
  go_enter Try.func50, Try.ntmps50
  go_wp2
  go_ret
  exact ⟨rfl, rfl⟩

end Go.Proofs.Ytleoiklcddkgdaa
