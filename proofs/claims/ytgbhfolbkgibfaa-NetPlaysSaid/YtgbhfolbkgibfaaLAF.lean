/- Joined: BinMethods, BinMethods2, BinOrder, BinNew, BinNil, RefRead, RefNum. -/
import Derived.Test.YtgbhfolbkgibfaaLAE
import Derived.Test.YtgbhfolbkgibfaaLAD
import Derived.Test.YtgbhfolbkgibfaaLAB
import Derived.Lib.BufferRead
/- The reader's calls: a byte, a number, a text, the end. -/
namespace Go.Proofs.Ytgbhfolbkgibfaa
set_option maxRecDepth 20000
open Go.RowKit BinMath
variable {G : Nat}

set_option maxHeartbeats 400000 in
theorem attempt_stuck (F : FuncId) (caps : Array Value) (R : Nat) (l : List UInt8) (k : Nat) (st : Int) (w : World) (h : IsRd w R G l k st) (hst : st ≠ 0) :
    Calls Try.prog 58 #[.pointer (some ⟨R, 0, none⟩), .func (.func F) #[] caps] w fun e w' => e = .returned (.int .i64 st) ∧ Below w.heap.size w w' := by
  obtain ⟨b, cap, hRh, hkl, -⟩ := h
  have r2 : w.cell? ⟨R, 2, none⟩ = some (.int .i64 st) := by rw [cell_of_heap hRh]; rfl
  have sR : R < w.heap.size := (Array.getElem?_eq_some_iff.1 hRh).1
  have m4 : ¬ w.heap.size = R := by omega
  have hs : (st != 0) = true := by simpa using hst
  clear hRh hst
  go_enter Try.func58, Try.ntmps58
  go_wp2
  go_ret
  exact ⟨rfl, ((Below.refl _ w).alloc (Nat.le_refl _) _).alloc (by simp) _⟩

/-- A variable of the caller's: block N holds u, alone. -/
def OneVar (w : World) (N : Nat) (t : TypeId) (u : Value) : Prop := w.heap[N]? = some (.cells #[u] t (0, 0))

set_option maxHeartbeats 400000 in
theorem num1_any (R N : Nat) (l : List UInt8) (k : Nat) (w : World) (h : IsRd w R G l k 0) (hN : OneVar w N 31 (.int .u64 0)) (hne : N ≠ R) (hGN : G ≤ N) :
    Calls Try.prog 106 #[.pointer (some ⟨R, 0, none⟩), .pointer (some ⟨N, 0, none⟩)] w (Reads G R l (fun b => b = R ∨ b = N)
      (fun k' w2 => ∃ n u, pNum (l.drop k) = .ok (n, u) ∧ k' = k + u ∧ OneVar w2 N 31 (.int .u64 (n : Int)))
      (fun c w2 => ∃ c' : Nat, c = c' ∧ pNum (l.drop k) = .error c' ∧ OneVar w2 N 31 (.int .u64 0)) w) := by
  have hC := number_any l k R 0 w h
  have sN : N < w.heap.size := (Array.getElem?_eq_some_iff.1 hN).1
  go_enter Try.func106, Try.ntmps106
  go_wp2_with fail
  refine hC.mono ?_
  rintro e w2 ⟨k', hr, ho, hm⟩
  have hN2 : OneVar w2 N 31 (.int .u64 0) := (ho.block N sN hne).trans hN
  cases hp : pNum (l.drop k) with
  | error c =>
    rw [hp] at hm
    obtain rfl := hm
    exact ⟨rfl, k', hr, OnlyS.of_only ho (.inl rfl), .inr ⟨_, by have := pNum_code hp; omega, rfl, c, rfl, hp, hN2⟩⟩
  | ok p =>
    obtain ⟨n, u⟩ := p
    rw [hp] at hm
    obtain ⟨rfl, rfl⟩ := hm
    have cN : w2.cell? ⟨N, 0, none⟩ = some (.int .u64 0) := by rw [cell_of_heap hN2]; rfl
    have fN : w2.frozen? ⟨N, 0, none⟩ = false := free_of_heap hN2
    have HP := Lib.hid hp
    have HR := Lib.hid hr
    have HO := Lib.hid ho
    have HN := Lib.hid hN2
    clear hp hr ho hN2 hC hN
    go_wp2
    go_end0
    refine ⟨k + u, HR.out.only (S := fun b => b = N) ((OnlyS.refl (fun b => b = N) _).setCell (p := ⟨N, 0, none⟩) (fun _ => rfl) _) (fun b hb he => by omega) (fun he => hne he.symm), (OnlyS.of_only HO.out (.inl rfl)).setCell (p := ⟨N, 0, none⟩) (fun _ => .inr rfl) _, .inl ⟨rfl, n, u, HP.out, rfl, ?_⟩⟩
    exact heap_set_same HN.out _

set_option maxHeartbeats 400000 in
theorem byte1_any (R N : Nat) (l : List UInt8) (k : Nat) (w : World) (h : IsRd w R G l k 0) (hN : OneVar w N 5 (.int .u8 0)) (hne : N ≠ R) (hGN : G ≤ N) :
    Calls Try.prog 108 #[.pointer (some ⟨R, 0, none⟩), .pointer (some ⟨N, 0, none⟩)] w (Reads G R l (fun b => b = R ∨ b = N)
      (fun k' w2 => ∃ h : k < l.length, k' = k + 1 ∧ OneVar w2 N 5 (bv l[k]))
      (fun c w2 => c = 2 ∧ k = l.length ∧ OneVar w2 N 5 (.int .u8 0)) w) := by
  have sN : N < w.heap.size := (Array.getElem?_eq_some_iff.1 hN).1
  have hf := h.facts
  by_cases hk : k < l.length
  · have hC := next_some l k R 0 w h hk
    obtain ⟨y, hy⟩ : ∃ y, y = l[k].toNat := ⟨_, rfl⟩
    unfold bv at hC ⊢
    have HY := Lib.hid hy
    have hC' : Calls Try.prog 109 #[.pointer (some ⟨R, 0, none⟩)] w fun e w' => e = .returned (.int .u8 (y : Int)) ∧ IsRd w' R G l (k + 1) 0 ∧ Only R w w' := by rw [hy]; exact hC
    clear hC hy
    go_enter Try.func108, Try.ntmps108
    go_wp2_with fail
    refine hC'.mono ?_
    rintro e w2 ⟨rfl, hr, ho⟩
    have hN2 : OneVar w2 N 5 (.int .u8 0) := (ho.block N sN hne).trans hN
    have cN : w2.cell? ⟨N, 0, none⟩ = some (.int .u8 0) := by rw [cell_of_heap hN2]; rfl
    have fN : w2.frozen? ⟨N, 0, none⟩ = false := free_of_heap hN2
    have HR := Lib.hid hr
    have HO := Lib.hid ho
    have HN := Lib.hid hN2
    clear hr ho hN2 hC' hN
    go_wp2
    go_end0
    refine ⟨k + 1, HR.out.only (S := fun b => b = N) ((OnlyS.refl (fun b => b = N) _).setCell (p := ⟨N, 0, none⟩) (fun _ => rfl) _) (fun b hb he => by omega) (fun he => hne he.symm), (OnlyS.of_only HO.out (.inl rfl)).setCell (p := ⟨N, 0, none⟩) (fun _ => .inr rfl) _, .inl ⟨rfl, hk, rfl, ?_⟩⟩
    rw [← HY.out]
    exact heap_set_same HN.out _
  · have hC := next_none l k R 0 w h (by omega)
    go_enter Try.func108, Try.ntmps108
    go_wp2_with fail
    refine hC.mono ?_
    rintro e w2 ⟨rfl, n, rfl⟩
    exact ⟨rfl, k, h.drewN n, OnlyS.of_only ((Only.refl R w).drewN n) (.inl rfl), .inr ⟨_, by decide, rfl, rfl, by omega, hN⟩⟩

/-- A row is where it was. -/
theorem row_only {w w' : World} {B : Nat} {v : Value} {l : List UInt8} (h : Row w B v l) (hk : ∀ g, B ≤ g → w'.heap[g]? = w.heap[g]?) : Row w' B v l := by
  refine ⟨h.1, ?_⟩
  rcases h.2 with h2 | ⟨g, cap, cur, hv, hB, hg, r⟩
  · exact .inl h2
  · exact .inr ⟨g, cap, cur, hv, hB, by rw [hk g hB]; exact hg, r⟩

set_option maxHeartbeats 400000 in
theorem raw1_any (R M N : Nat) (l : List UInt8) (k : Nat) (most : Int) (w : World) (h : IsRd w R G l k 0) (hm : -9223372036854775808 ≤ most ∧ most ≤ 9223372036854775807) (hM : OneVar w M 3 (.int .i64 most)) (hN : OneVar w N 34 (.slice none 0 0)) (hne : N ≠ R) (hGN : G ≤ N) :
    Calls Try.prog 110 #[.pointer (some ⟨R, 0, none⟩), .pointer (some ⟨M, 0, none⟩), .pointer (some ⟨N, 0, none⟩)] w (Reads G R l (fun b => b = R ∨ b = N)
      (fun k' w2 => ∃ t u v, pText most.toNat (l.drop k) = .ok (t, u) ∧ k' = k + u ∧ OneVar w2 N 34 v ∧ Row w2 w.heap.size v t)
      (fun c w2 => ∃ c' : Nat, c = c' ∧ pText most.toNat (l.drop k) = .error c' ∧ OneVar w2 N 34 (.slice none 0 0)) w) := by
  have hC := text_any l k R 0 most w h hm
  have sN : N < w.heap.size := (Array.getElem?_eq_some_iff.1 hN).1
  have cM : w.cell? ⟨M, 0, none⟩ = some (.int .i64 most) := by rw [cell_of_heap hM]; rfl
  clear hm
  go_enter Try.func110, Try.ntmps110
  go_wp2_with fail
  refine hC.mono ?_
  rintro e w2 ⟨k', hr, ho, hm⟩
  have hN2 : OneVar w2 N 34 (.slice none 0 0) := (ho.block N sN hne).trans hN
  cases hp : pText most.toNat (l.drop k) with
  | error c =>
    rw [hp] at hm
    obtain rfl := hm
    exact ⟨rfl, k', hr, OnlyS.of_only ho (.inl rfl), .inr ⟨_, by have := pText_code hp; omega, rfl, c, rfl, hp, hN2⟩⟩
  | ok p =>
    obtain ⟨t, u⟩ := p
    rw [hp] at hm
    obtain ⟨⟨v, rfl, hrow⟩, rfl⟩ := hm
    have cN : w2.cell? ⟨N, 0, none⟩ = some (.slice none 0 0) := by rw [cell_of_heap hN2]; rfl
    have fN : w2.frozen? ⟨N, 0, none⟩ = false := free_of_heap hN2
    obtain ⟨a, tl, cap, rfl⟩ : ∃ a tl cap, v = .slice a tl cap := by
      rcases hrow.2 with ⟨hv, _⟩ | ⟨g, cap, cur, hv, _⟩ <;> exact ⟨_, _, _, hv⟩
    have HP := Lib.hid hp
    have HR := Lib.hid hr
    have HO := Lib.hid ho
    have HN := Lib.hid hN2
    have HRow := Lib.hid hrow
    clear hp hr ho hN2 hC hN hrow
    go_wp2
    go_end0
    refine ⟨k + u, HR.out.only (S := fun b => b = N) ((OnlyS.refl (fun b => b = N) _).setCell (p := ⟨N, 0, none⟩) (fun _ => rfl) _) (fun b hb he => by omega) (fun he => hne he.symm), (OnlyS.of_only HO.out (.inl rfl)).setCell (p := ⟨N, 0, none⟩) (fun _ => .inr rfl) _, .inl ⟨rfl, t, u, _, HP.out, rfl, heap_set_same HN.out _, ?_⟩⟩
    exact row_only HRow.out (fun g hg => heap_set_other (by omega) _)

set_option maxHeartbeats 400000 in
theorem end1_any (R : Nat) (l : List UInt8) (k : Nat) (w : World) (h : IsRd w R G l k 0) :
    Calls Try.prog 59 #[.pointer (some ⟨R, 0, none⟩)] w (Reads G R l (fun b => b = R) (fun k' _ => k' = k ∧ k = l.length) (fun c _ => c = 5 ∧ k < l.length) w) := by
  have hC := left_any l k 0 R w h
  have hf := h.facts
  by_cases hk : k < l.length
  · obtain ⟨m, hm⟩ : ∃ m, m + 1 = l.length - k := ⟨l.length - k - 1, by omega⟩
    rw [← hm] at hC
    go_enter Try.func59, Try.ntmps59
    go_wp2_with fail
    refine hC.mono ?_
    rintro e w2 ⟨rfl, n, rfl⟩
    go_wp2_with (go_at_call 44; refine (quit_bad _ (by decide) _).mono ?_; rintro e w3 ⟨rfl, rfl⟩)
    exact ⟨rfl, k, h.drewN n, OnlyS.of_only ((Only.refl R w).drewN n) rfl, .inr ⟨_, by decide, rfl, rfl, hk⟩⟩
  · have e0 : l.length - k = 0 := by omega
    rw [e0] at hC
    go_enter Try.func59, Try.ntmps59
    go_wp2_with fail
    refine hC.mono ?_
    rintro e w2 ⟨rfl, n, rfl⟩
    go_wp2
    go_end0
    exact ⟨k, h.drewN n, OnlyS.of_only ((Only.refl R w).drewN n) rfl, .inl ⟨rfl, rfl, by omega⟩⟩


/-- How a call of the reader ends: v the value, c the error, k' the place behind. -/
def Answers (G R : Nat) (l : List UInt8) (w : World) (v : Value) (c k' : Nat) (e : Ending) (w' : World) : Prop :=
  Only R w w' ∧ e = .returned (.tuple #[v, .int .i64 (c : Int)]) ∧ IsRd w' R G l k' c

set_option maxHeartbeats 400000 in
theorem rdNum_ok (R : Nat) (l : List UInt8) (k : Nat) (w : World) (h : IsRd w R G l k 0) :
    Calls Try.prog 100 #[.pointer (some ⟨R, 0, none⟩)] w (Answers G R l w (.int .u64 ((numS l k 0).1 : Int)) (numS l k 0).2.1 (numS l k 0).2.2) := by
  have hmf : ∀ (fn : Fn) (first cap : Array Value) (w : World), (Instr.makeFunc fn first cap).run Try.prog w = .ok (.func fn first cap) w := fun _ _ _ _ => rfl
  have hf := h.facts
  have hA := attempt_any 106 #[.pointer (some ⟨w.heap.size, 0, none⟩)] (enters _ (by kernel_rfl)) R l k (w.alloc (.cells #[.int .u64 0] 31)) (h.below ((Below.refl _ _).alloc (Nat.le_refl _) _)) (fun b => b = R ∨ b = w.heap.size) _ _ (.inl rfl)
    (fun b hb => by rw [World.size_alloc]; omega)
    (fun w1 hb1 hs1 => by
      have hN : OneVar w1 w.heap.size 31 (.int .u64 0) := by
        unfold OneVar
        rw [hb1.block _ (by simp)]
        exact heap_alloc_new w _
      exact num1_any R w.heap.size l k w1 ((h.below ((Below.refl _ _).alloc (Nat.le_refl _) _)).below hb1) hN (by omega) hf.2.2.2)
  have HA := Lib.hid hA
  clear hA
  obtain ⟨n, c, k0, hq⟩ : ∃ n c k0, numS l k 0 = (n, c, k0) := ⟨_, _, _, rfl⟩
  have HQ := Lib.hid hq
  rw [hq]
  clear hq
  go_enter Try.func100, Try.ntmps100
  go_wp2_with fail
  refine HA.out.mono ?_
  rintro e w' ⟨w2, hsz, ho, ho2, hcase⟩
  have hN' : w'.heap[w.heap.size]? = w2.heap[w.heap.size]? := ho2.block _ (by rw [World.size_alloc] at hsz; omega) (by rw [World.size_alloc]; omega)
  have hon : Only R w w' := (OnlyS.then (S := fun b => b = R) (OnlyS.of_below ((Below.refl _ w).alloc (Nat.le_refl _) _) (fun _ hk _ => hk)) ho (fun b hb h => by omega)).only (fun b _ h => h)
  have hall : e = .returned (.int .i64 (c : Int)) ∧ IsRd w' R G l k0 c ∧ OneVar w' w.heap.size 31 (.int .u64 (n : Int)) := by
    have hq := HQ.out
    rcases hcase with ⟨k', rfl, hr, m, u, hp, rfl, hv⟩ | ⟨d, rfl, hr, d', rfl, hp, hv⟩
    · simp only [numS, hp] at hq
      cases hq
      exact ⟨rfl, hr, hN'.trans hv⟩
    · simp only [numS, hp] at hq
      cases hq
      exact ⟨rfl, hr, hN'.trans hv⟩
  obtain ⟨rfl, hr, hv⟩ := hall
  have cN : w'.cell? ⟨w.heap.size, 0, none⟩ = some (.int .u64 (n : Int)) := by rw [cell_of_heap hv]; rfl
  have fN : w'.frozen? ⟨w.heap.size, 0, none⟩ = false := free_of_heap hv
  have HV := Lib.hid hv
  have HR := Lib.hid hr
  have HO := Lib.hid hon
  clear ho ho2 hcase hN' hon hv hr HA hsz
  go_wp2
  have cE : (w'.setCell ⟨w.heap.size, 0, none⟩ (.int .u64 (n : Int))).cell? ⟨w.heap.size, 0, none⟩ = some (.int .u64 (n : Int)) := by rw [cell_of_heap (heap_set_same HV.out _)]; rfl
  refine bodyPost_ret (v := .tuple #[.int .u64 (n : Int), .int .i64 (c : Int)]) (by simp [results, Try.results100, go_sem, cE]) rfl ⟨HO.out.setNew (Nat.le_refl _) _, rfl, ?_⟩
  exact HR.out.only (S := fun b => b = w.heap.size) ((OnlyS.refl (fun b => b = w.heap.size) _).setCell (p := ⟨w.heap.size, 0, none⟩) (fun _ => rfl) _) (fun b hb he => by omega) (by omega)

set_option maxHeartbeats 400000 in
theorem rdNum_stuck (R : Nat) (l : List UInt8) (k st : Nat) (w : World) (h : IsRd w R G l k st) (hst : st ≠ 0) :
    Calls Try.prog 100 #[.pointer (some ⟨R, 0, none⟩)] w (Answers G R l w (.int .u64 0) st k) := by
  have hmf : ∀ (fn : Fn) (first cap : Array Value) (w : World), (Instr.makeFunc fn first cap).run Try.prog w = .ok (.func fn first cap) w := fun _ _ _ _ => rfl
  have hf := h.facts
  have hA := attempt_stuck (G := G) 106 #[.pointer (some ⟨w.heap.size, 0, none⟩)] R l k st (w.alloc (.cells #[.int .u64 0] 31)) (h.below ((Below.refl _ _).alloc (Nat.le_refl _) _)) (by omega)
  have HA := Lib.hid hA
  have HI := Lib.hid h
  clear hA h hst
  go_enter Try.func100, Try.ntmps100
  go_wp2_with fail
  refine HA.out.mono ?_
  rintro e w' ⟨rfl, hb⟩
  have hv : OneVar w' w.heap.size 31 (.int .u64 0) := by
    unfold OneVar
    rw [hb.block _ (by simp)]
    exact heap_alloc_new w _
  have hbw : Below w.heap.size w w' := ((Below.refl _ w).alloc (Nat.le_refl _) _).trans (hb.mono (by simp))
  have cN : w'.cell? ⟨w.heap.size, 0, none⟩ = some (.int .u64 0) := by rw [cell_of_heap hv]; rfl
  have fN : w'.frozen? ⟨w.heap.size, 0, none⟩ = false := free_of_heap hv
  have HV := Lib.hid hv
  have HO := Lib.hid hbw
  clear hb hbw hv HA
  go_wp2
  have cE : (w'.setCell ⟨w.heap.size, 0, none⟩ (.int .u64 0)).cell? ⟨w.heap.size, 0, none⟩ = some (.int .u64 0) := by rw [cell_of_heap (heap_set_same HV.out _)]; rfl
  have hbf := HO.out.setCell (p := ⟨w.heap.size, 0, none⟩) (Nat.le_refl _) (.int .u64 0)
  exact bodyPost_ret (v := .tuple #[.int .u64 0, .int .i64 (st : Int)]) (by simp [results, Try.results100, go_sem, cE]) rfl ⟨Only.of_below hbf, rfl, HI.out.below hbf⟩

theorem rdNum_any (R : Nat) (l : List UInt8) (k st : Nat) (w : World) (h : IsRd w R G l k st) :
    Calls Try.prog 100 #[.pointer (some ⟨R, 0, none⟩)] w (Answers G R l w (.int .u64 ((numS l k st).1 : Int)) (numS l k st).2.1 (numS l k st).2.2) := by
  by_cases hst : st = 0
  · subst hst
    exact rdNum_ok R l k w h
  · have e : numS l k st = (0, st, k) := if_pos hst
    rw [e]
    exact rdNum_stuck R l k st w h hst

set_option maxHeartbeats 400000 in
theorem rdByte_ok (R : Nat) (l : List UInt8) (k : Nat) (w : World) (h : IsRd w R G l k 0) :
    Calls Try.prog 102 #[.pointer (some ⟨R, 0, none⟩)] w (Answers G R l w (.int .u8 ((byteS l k 0).1 : Int)) (byteS l k 0).2.1 (byteS l k 0).2.2) := by
  have hmf : ∀ (fn : Fn) (first cap : Array Value) (w : World), (Instr.makeFunc fn first cap).run Try.prog w = .ok (.func fn first cap) w := fun _ _ _ _ => rfl
  have hf := h.facts
  have hA := attempt_any 108 #[.pointer (some ⟨w.heap.size, 0, none⟩)] (enters _ (by kernel_rfl)) R l k (w.alloc (.cells #[.int .u8 0] 5)) (h.below ((Below.refl _ _).alloc (Nat.le_refl _) _)) (fun b => b = R ∨ b = w.heap.size) _ _ (.inl rfl)
    (fun b hb => by rw [World.size_alloc]; omega)
    (fun w1 hb1 hs1 => by
      have hN : OneVar w1 w.heap.size 5 (.int .u8 0) := by
        unfold OneVar
        rw [hb1.block _ (by simp)]
        exact heap_alloc_new w _
      exact byte1_any R w.heap.size l k w1 ((h.below ((Below.refl _ _).alloc (Nat.le_refl _) _)).below hb1) hN (by omega) hf.2.2.2)
  have HA := Lib.hid hA
  clear hA
  obtain ⟨n, c, k0, hq⟩ : ∃ n c k0, byteS l k 0 = (n, c, k0) := ⟨_, _, _, rfl⟩
  have HQ := Lib.hid hq
  rw [hq]
  clear hq
  go_enter Try.func102, Try.ntmps102
  go_wp2_with fail
  refine HA.out.mono ?_
  rintro e w' ⟨w2, hsz, ho, ho2, hcase⟩
  have hN' : w'.heap[w.heap.size]? = w2.heap[w.heap.size]? := ho2.block _ (by rw [World.size_alloc] at hsz; omega) (by rw [World.size_alloc]; omega)
  have hon : Only R w w' := (OnlyS.then (S := fun b => b = R) (OnlyS.of_below ((Below.refl _ w).alloc (Nat.le_refl _) _) (fun _ hk _ => hk)) ho (fun b hb h => by omega)).only (fun b _ h => h)
  have hall : e = .returned (.int .i64 (c : Int)) ∧ IsRd w' R G l k0 c ∧ OneVar w' w.heap.size 5 (.int .u8 (n : Int)) := by
    have hq := HQ.out
    rcases hcase with ⟨k', rfl, hr, hlt, rfl, hv⟩ | ⟨d, rfl, hr, rfl, hlt, hv⟩
    · simp only [byteS, List.drop_eq_getElem_cons hlt] at hq
      cases hq
      exact ⟨rfl, hr, hN'.trans hv⟩
    · simp only [byteS, List.drop_eq_nil_of_le (Nat.le_of_eq hlt.symm)] at hq
      cases hq
      exact ⟨rfl, hr, hN'.trans hv⟩
  obtain ⟨rfl, hr, hv⟩ := hall
  have cN : w'.cell? ⟨w.heap.size, 0, none⟩ = some (.int .u8 (n : Int)) := by rw [cell_of_heap hv]; rfl
  have fN : w'.frozen? ⟨w.heap.size, 0, none⟩ = false := free_of_heap hv
  have HV := Lib.hid hv
  have HR := Lib.hid hr
  have HO := Lib.hid hon
  clear ho ho2 hcase hN' hon hv hr HA hsz
  go_wp2
  have cE : (w'.setCell ⟨w.heap.size, 0, none⟩ (.int .u8 (n : Int))).cell? ⟨w.heap.size, 0, none⟩ = some (.int .u8 (n : Int)) := by rw [cell_of_heap (heap_set_same HV.out _)]; rfl
  refine bodyPost_ret (v := .tuple #[.int .u8 (n : Int), .int .i64 (c : Int)]) (by simp [results, Try.results102, go_sem, cE]) rfl ⟨HO.out.setNew (Nat.le_refl _) _, rfl, ?_⟩
  exact HR.out.only (S := fun b => b = w.heap.size) ((OnlyS.refl (fun b => b = w.heap.size) _).setCell (p := ⟨w.heap.size, 0, none⟩) (fun _ => rfl) _) (fun b hb he => by omega) (by omega)

set_option maxHeartbeats 400000 in
theorem rdByte_stuck (R : Nat) (l : List UInt8) (k st : Nat) (w : World) (h : IsRd w R G l k st) (hst : st ≠ 0) :
    Calls Try.prog 102 #[.pointer (some ⟨R, 0, none⟩)] w (Answers G R l w (.int .u8 0) st k) := by
  have hmf : ∀ (fn : Fn) (first cap : Array Value) (w : World), (Instr.makeFunc fn first cap).run Try.prog w = .ok (.func fn first cap) w := fun _ _ _ _ => rfl
  have hf := h.facts
  have hA := attempt_stuck (G := G) 108 #[.pointer (some ⟨w.heap.size, 0, none⟩)] R l k st (w.alloc (.cells #[.int .u8 0] 5)) (h.below ((Below.refl _ _).alloc (Nat.le_refl _) _)) (by omega)
  have HA := Lib.hid hA
  have HI := Lib.hid h
  clear hA h hst
  go_enter Try.func102, Try.ntmps102
  go_wp2_with fail
  refine HA.out.mono ?_
  rintro e w' ⟨rfl, hb⟩
  have hv : OneVar w' w.heap.size 5 (.int .u8 0) := by
    unfold OneVar
    rw [hb.block _ (by simp)]
    exact heap_alloc_new w _
  have hbw : Below w.heap.size w w' := ((Below.refl _ w).alloc (Nat.le_refl _) _).trans (hb.mono (by simp))
  have cN : w'.cell? ⟨w.heap.size, 0, none⟩ = some (.int .u8 0) := by rw [cell_of_heap hv]; rfl
  have fN : w'.frozen? ⟨w.heap.size, 0, none⟩ = false := free_of_heap hv
  have HV := Lib.hid hv
  have HO := Lib.hid hbw
  clear hb hbw hv HA
  go_wp2
  have cE : (w'.setCell ⟨w.heap.size, 0, none⟩ (.int .u8 0)).cell? ⟨w.heap.size, 0, none⟩ = some (.int .u8 0) := by rw [cell_of_heap (heap_set_same HV.out _)]; rfl
  have hbf := HO.out.setCell (p := ⟨w.heap.size, 0, none⟩) (Nat.le_refl _) (.int .u8 0)
  exact bodyPost_ret (v := .tuple #[.int .u8 0, .int .i64 (st : Int)]) (by simp [results, Try.results102, go_sem, cE]) rfl ⟨Only.of_below hbf, rfl, HI.out.below hbf⟩

theorem rdByte_any (R : Nat) (l : List UInt8) (k st : Nat) (w : World) (h : IsRd w R G l k st) :
    Calls Try.prog 102 #[.pointer (some ⟨R, 0, none⟩)] w (Answers G R l w (.int .u8 ((byteS l k st).1 : Int)) (byteS l k st).2.1 (byteS l k st).2.2) := by
  by_cases hst : st = 0
  · subst hst
    exact rdByte_ok R l k w h
  · have e : byteS l k st = (0, st, k) := if_pos hst
    rw [e]
    exact rdByte_stuck R l k st w h hst

end Go.Proofs.Ytgbhfolbkgibfaa

/- The reader's calls: a text, the end, a new reader. -/
namespace Go.Proofs.Ytgbhfolbkgibfaa
set_option maxRecDepth 20000
open Go.RowKit BinMath
variable {G : Nat}

/-- How a reading of a text ends: t the text, c the error, k' the place behind. -/
def TextAnswers (G R : Nat) (l : List UInt8) (w : World) (t : List UInt8) (c k' : Nat) (e : Ending) (w' : World) : Prop :=
  Only R w w' ∧ ∃ v, e = .returned (.tuple #[v, .int .i64 (c : Int)]) ∧ Row w' w.heap.size v t ∧ IsRd w' R G l k' c

set_option maxHeartbeats 400000 in
theorem rdRaw_ok (R : Nat) (l : List UInt8) (k : Nat) (most : Int) (hm : -9223372036854775808 ≤ most ∧ most ≤ 9223372036854775807) (w : World) (h : IsRd w R G l k 0) :
    Calls Try.prog 103 #[.pointer (some ⟨R, 0, none⟩), .int .i64 most] w (TextAnswers G R l w (textS l most.toNat k 0).1 (textS l most.toNat k 0).2.1 (textS l most.toNat k 0).2.2) := by
  have hmf : ∀ (fn : Fn) (first cap : Array Value) (w : World), (Instr.makeFunc fn first cap).run Try.prog w = .ok (.func fn first cap) w := fun _ _ _ _ => rfl
  have hf := h.facts
  obtain ⟨w0, hw0⟩ : ∃ w0, w0 = (w.alloc (.cells #[.int .i64 most] 3)).alloc (.cells #[.slice none 0 0] 34) := ⟨_, rfl⟩
  have hb0 : Below w.heap.size w w0 := by rw [hw0]; exact ((Below.refl _ _).alloc (Nat.le_refl _) _).alloc (by simp) _
  have hs0 : w0.heap.size = w.heap.size + 2 := by rw [hw0]; simp
  have hM : OneVar w0 w.heap.size 3 (.int .i64 most) := by
    unfold OneVar
    rw [hw0, Below.heap_alloc _ _ _ (by simp)]
    exact heap_alloc_new w _
  have hN : OneVar w0 (w.heap.size + 1) 34 (.slice none 0 0) := by
    unfold OneVar
    rw [hw0]
    have := heap_alloc_new (w.alloc (.cells #[.int .i64 most] 3)) (.cells #[.slice none 0 0] 34)
    simpa using this
  have hA := attempt_any 110 #[.pointer (some ⟨w.heap.size, 0, none⟩), .pointer (some ⟨w.heap.size + 1, 0, none⟩)] (enters _ (by kernel_rfl)) R l k w0 (h.below hb0) (fun b => b = R ∨ b = w.heap.size + 1)
    (fun k' w2 => ∃ t u v, pText most.toNat (l.drop k) = .ok (t, u) ∧ k' = k + u ∧ OneVar w2 (w.heap.size + 1) 34 v ∧ Row w2 (w0.heap.size + 3) v t) _ (.inl rfl)
    (fun b hb => by rw [hs0]; omega)
    (fun w1 hb1 hs1 => by
      have := raw1_any R w.heap.size (w.heap.size + 1) l k most w1 ((h.below hb0).below hb1) hm ((hb1.block _ (by omega)).trans hM) ((hb1.block _ (by omega)).trans hN) (by omega) (by omega)
      rw [hs1] at this
      exact this)
  have HA := Lib.hid hA
  have HB0 := Lib.hid hb0
  clear hA hm hM hN hb0
  obtain ⟨t, c, k0, hq⟩ : ∃ t c k0, textS l most.toNat k 0 = (t, c, k0) := ⟨_, _, _, rfl⟩
  have HQ := Lib.hid hq
  rw [hq]
  clear hq
  go_enter Try.func103, Try.ntmps103
  go_wp2_with fail
  rw [← hw0]
  refine HA.out.mono ?_
  rintro e w' ⟨w2, hsz, ho, ho2, hcase⟩
  have hN' : w'.heap[w.heap.size + 1]? = w2.heap[w.heap.size + 1]? := ho2.block _ (by omega) (by omega)
  have hon : Only R w w' := (OnlyS.then (S := fun b => b = R) (OnlyS.of_below HB0.out (fun _ hk _ => hk)) ho (fun b hb h => by omega)).only (fun b _ h => h)
  have hall : ∃ v, e = .returned (.int .i64 (c : Int)) ∧ IsRd w' R G l k0 c ∧ OneVar w' (w.heap.size + 1) 34 v ∧ Row w' (w.heap.size + 2) v t := by
    have hq := HQ.out
    rcases hcase with ⟨k', rfl, hr, t', u, v, hp, rfl, hv, hrow⟩ | ⟨d, rfl, hr, d', rfl, hp, hv⟩
    · simp only [textS, hp] at hq
      cases hq
      refine ⟨v, rfl, hr, hN'.trans hv, ?_⟩
      have h1 : Row w' (w0.heap.size + 3) v t := by
        refine ⟨hrow.1, ?_⟩
        rcases hrow.2 with h2 | ⟨g, cap, cur, hv2, hB, hg, r⟩
        · exact .inl h2
        · exact .inr ⟨g, cap, cur, hv2, hB, by rw [ho2.block g (Array.getElem?_eq_some_iff.1 hg).1 (by omega)]; exact hg, r⟩
      exact ⟨h1.1, h1.2.imp id fun ⟨g, cap, cur, hv2, hB, r⟩ => ⟨g, cap, cur, hv2, by omega, r⟩⟩
    · simp only [textS, hp] at hq
      cases hq
      exact ⟨_, rfl, hr, hN'.trans hv, World.ownsRow_nil _ _ _ _⟩
  obtain ⟨v, rfl, hr, hv, hrow⟩ := hall
  obtain ⟨a, cap, rfl⟩ := slice_of_row hrow
  have cN : w'.cell? ⟨w.heap.size + 1, 0, none⟩ = some (.slice a t.length cap) := by rw [cell_of_heap hv]; rfl
  have fN : w'.frozen? ⟨w.heap.size + 1, 0, none⟩ = false := free_of_heap hv
  have HV := Lib.hid hv
  have HR := Lib.hid hr
  have HO := Lib.hid hon
  have HRow := Lib.hid hrow
  clear ho ho2 hcase hN' hon hv hr HA hsz hrow hw0 hs0
  go_wp2
  have cE : (w'.setCell ⟨w.heap.size + 1, 0, none⟩ (.slice a t.length cap)).cell? ⟨w.heap.size + 1, 0, none⟩ = some (.slice a t.length cap) := by rw [cell_of_heap (heap_set_same HV.out _)]; rfl
  refine bodyPost_ret (v := .tuple #[.slice a t.length cap, .int .i64 (c : Int)]) (by simp [results, Try.results103, go_sem, cE]) rfl ⟨HO.out.setNew (by simp) _, _, rfl, ?_, ?_⟩
  · have h1 := row_only HRow.out (w' := w'.setCell ⟨w.heap.size + 1, 0, none⟩ (.slice a t.length cap)) (fun g hg => heap_set_other (by omega) _)
    exact ⟨h1.1, h1.2.imp id fun ⟨g, cap, cur, hv2, hB, r⟩ => ⟨g, cap, cur, hv2, by omega, r⟩⟩
  · exact HR.out.only (S := fun b => b = w.heap.size + 1) ((OnlyS.refl (fun b => b = w.heap.size + 1) _).setCell (p := ⟨w.heap.size + 1, 0, none⟩) (fun _ => rfl) _) (fun b hb he => by omega) (by omega)

set_option maxHeartbeats 400000 in
theorem rdRaw_stuck (R : Nat) (l : List UInt8) (k st : Nat) (most : Int) (w : World) (h : IsRd w R G l k st) (hst : st ≠ 0) :
    Calls Try.prog 103 #[.pointer (some ⟨R, 0, none⟩), .int .i64 most] w (TextAnswers G R l w [] st k) := by
  have hmf : ∀ (fn : Fn) (first cap : Array Value) (w : World), (Instr.makeFunc fn first cap).run Try.prog w = .ok (.func fn first cap) w := fun _ _ _ _ => rfl
  have hf := h.facts
  obtain ⟨w0, hw0⟩ : ∃ w0, w0 = (w.alloc (.cells #[.int .i64 most] 3)).alloc (.cells #[.slice none 0 0] 34) := ⟨_, rfl⟩
  have hb0 : Below w.heap.size w w0 := by rw [hw0]; exact ((Below.refl _ _).alloc (Nat.le_refl _) _).alloc (by simp) _
  have hs0 : w0.heap.size = w.heap.size + 2 := by rw [hw0]; simp
  have hN : OneVar w0 (w.heap.size + 1) 34 (.slice none 0 0) := by
    unfold OneVar
    rw [hw0]
    have := heap_alloc_new (w.alloc (.cells #[.int .i64 most] 3)) (.cells #[.slice none 0 0] 34)
    simpa using this
  have hA := attempt_stuck (G := G) 110 #[.pointer (some ⟨w.heap.size, 0, none⟩), .pointer (some ⟨w.heap.size + 1, 0, none⟩)] R l k st w0 (h.below hb0) (by omega)
  have HA := Lib.hid hA
  have HI := Lib.hid h
  have HN := Lib.hid hN
  have HB0 := Lib.hid hb0
  clear hA h hst hN hb0
  go_enter Try.func103, Try.ntmps103
  go_wp2_with fail
  rw [← hw0]
  refine HA.out.mono ?_
  rintro e w' ⟨rfl, hb⟩
  have hv : OneVar w' (w.heap.size + 1) 34 (.slice none 0 0) := (hb.block _ (by omega)).trans HN.out
  have hbw : Below w.heap.size w w' := HB0.out.trans (hb.mono (by omega))
  have cN : w'.cell? ⟨w.heap.size + 1, 0, none⟩ = some (.slice none 0 0) := by rw [cell_of_heap hv]; rfl
  have fN : w'.frozen? ⟨w.heap.size + 1, 0, none⟩ = false := free_of_heap hv
  have HV := Lib.hid hv
  have HO := Lib.hid hbw
  clear hb hbw hv HA hw0 hs0
  go_wp2
  have cE : (w'.setCell ⟨w.heap.size + 1, 0, none⟩ (.slice none 0 0)).cell? ⟨w.heap.size + 1, 0, none⟩ = some (.slice none 0 0) := by rw [cell_of_heap (heap_set_same HV.out _)]; rfl
  have hbf := HO.out.setCell (p := ⟨w.heap.size + 1, 0, none⟩) (by simp) (.slice none 0 0)
  exact bodyPost_ret (v := .tuple #[.slice none 0 0, .int .i64 (st : Int)]) (by simp [results, Try.results103, go_sem, cE]) rfl ⟨Only.of_below hbf, _, rfl, World.ownsRow_nil _ _ _ _, HI.out.below hbf⟩

theorem rdRaw_any (R : Nat) (l : List UInt8) (k st : Nat) (most : Int) (hm : -9223372036854775808 ≤ most ∧ most ≤ 9223372036854775807) (w : World) (h : IsRd w R G l k st) :
    Calls Try.prog 103 #[.pointer (some ⟨R, 0, none⟩), .int .i64 most] w (TextAnswers G R l w (textS l most.toNat k st).1 (textS l most.toNat k st).2.1 (textS l most.toNat k st).2.2) := by
  by_cases hst : st = 0
  · subst hst
    exact rdRaw_ok R l k most hm w h
  · have e : textS l most.toNat k st = ([], st, k) := if_pos hst
    rw [e]
    exact rdRaw_stuck R l k st most w h hst

set_option maxHeartbeats 400000 in
theorem rdEnd_any (R : Nat) (l : List UInt8) (k st : Nat) (w : World) (h : IsRd w R G l k st) :
    Calls Try.prog 45 #[.pointer (some ⟨R, 0, none⟩)] w fun e w' => e = .returned (.int .i64 (endS l k st : Int)) ∧ IsRd w' R G l k (endS l k st : Nat) ∧ Only R w w' := by
  have hf := h.facts
  by_cases hst : st = 0
  · subst hst
    have hA := attempt_any 59 #[] (enters _ (by kernel_rfl)) R l k w h (fun b => b = R) _ _ rfl (fun b hb => by omega)
      (fun w1 hb1 hs1 => end1_any R l k w1 (h.below hb1))
    have HA := Lib.hid hA
    clear hA
    obtain ⟨c, hq⟩ : ∃ c, endS l k 0 = c := ⟨_, rfl⟩
    have HQ := Lib.hid hq
    rw [hq]
    clear hq
    go_enter Try.func45, Try.ntmps45
    go_wp2_with fail
    refine HA.out.mono ?_
    rintro e w' ⟨w2, hsz, ho, ho2, hcase⟩
    have hall : e = .returned (.int .i64 (c : Int)) ∧ IsRd w' R G l k c := by
      have hq := HQ.out
      rcases hcase with ⟨k', rfl, hr, rfl, hlt⟩ | ⟨d, rfl, hr, rfl, hlt⟩
      · simp only [endS, if_neg (show ¬ k' < l.length by omega)] at hq
        subst hq
        exact ⟨rfl, hr⟩
      · simp only [endS, if_pos hlt] at hq
        subst hq
        exact ⟨rfl, hr⟩
    obtain ⟨rfl, hr⟩ := hall
    have HR := Lib.hid hr
    have HO := Lib.hid (ho.only (R := R) fun b _ h => h)
    clear hsz ho ho2 hcase hr HA
    go_wp2
    go_ret
    exact ⟨rfl, HR.out, HO.out⟩
  · have e : endS l k st = st := if_pos hst
    rw [e]
    have hA := attempt_stuck (G := G) 59 #[] R l k st w h (by omega)
    have HA := Lib.hid hA
    have HI := Lib.hid h
    clear hA e h hst
    go_enter Try.func45, Try.ntmps45
    go_wp2_with fail
    refine HA.out.mono ?_
    rintro e w' ⟨rfl, hb⟩
    have HB := Lib.hid hb
    clear hb HA
    go_wp2
    go_ret
    exact ⟨rfl, HI.out.below HB.out, Only.of_below HB.out⟩

end Go.Proofs.Ytgbhfolbkgibfaa

/- BinOrder: the walk. -/
namespace Go.Proofs.Ytgbhfolbkgibfaa
set_option maxRecDepth 20000
open Go.RowKit BinMath

/-- What the walk of BinOrder is told of two texts. -/
structure Two (a b : Nat) (X Y : ByteArray) : Prop where
  eql : (X.toList == Y.toList) = decide (a = b)
  lss : Op.bytesLess X.toList Y.toList = decide (a < b)
  pre : a ≠ b → X.size ≤ Y.size → ((Y.extract 0 X.size).toList == X.toList) = false
  erp : a ≠ b → Y.size ≤ X.size → ((X.extract 0 Y.size).toList == Y.toList) = false

theorem two (a b : Nat) (ha : a < 18446744073709551616) (hb : b < 18446744073709551616) : Two a b ⟨(numL a).toArray⟩ ⟨(numL b).toArray⟩ := by
  have pre : ∀ a b : Nat, a < 18446744073709551616 → b < 18446744073709551616 → a ≠ b → (((⟨(numL b).toArray⟩ : ByteArray).extract 0 (⟨(numL a).toArray⟩ : ByteArray).size).toList == (⟨(numL a).toArray⟩ : ByteArray).toList) = false := by
    intro a b ha hb hne
    rw [beq_eq_false_iff_ne, ByteArray.toList_mk, ByteArray.toList_eq]
    intro h
    refine hne (numL_prefix a b ha hb ?_)
    have hs : (⟨(numL a).toArray⟩ : ByteArray).size = (numL a).length := by simp [ByteArray.size]
    rw [hs] at h
    rw [Lib.extract_data] at h
    simpa using h
  refine ⟨?_, ?_, fun h _ => pre a b ha hb h, fun h _ => pre b a hb ha (Ne.symm h)⟩
  · rw [ByteArray.toList_mk, ByteArray.toList_mk, Bool.eq_iff_iff]
    simp only [beq_iff_eq, decide_eq_true_eq]
    exact ⟨numL_inj a b ha hb, fun h => by rw [h]⟩
  · rw [ByteArray.toList_mk, ByteArray.toList_mk]
    exact less_numL a b ha hb

end Go.Proofs.Ytgbhfolbkgibfaa

/- A new reader; what the laws of layer 1 begin with. -/
namespace Go.Proofs.Ytgbhfolbkgibfaa
set_option maxRecDepth 20000
open Go.RowKit BinMath
variable {G : Nat}

theorem bys_cells {w : World} {a : Option Addr} {len cap : Nat} {l : List UInt8} (h : Bys w (.slice a len cap) l) : len = l.length ∧ (0 < l.length → ∃ ad, a = some ad ∧ ∀ j v, (l.map bv)[j]? = some v → w.cell? (ad.add j) = some v) := by
  rcases h with ⟨h1, rfl⟩ | ⟨ad, cap', h1, hc⟩
  · simp at h1
    exact ⟨h1.2.1, fun h => by simp at h⟩
  · simp at h1
    obtain ⟨rfl, rfl, rfl⟩ := h1
    exact ⟨rfl, fun _ => ⟨ad, rfl, cells_bys hc⟩⟩

theorem made {w1 : World} {B T n : Nat} {xs : List Value} (h : w1.ownsRow B 5 1 (.slice (some ⟨T, 0, none⟩) n n) n xs) : ∃ cur, w1.heap[T]? = some (.cells cur 5 (0, 0)) ∧ cur.size = n := by
  rcases h.2 with ⟨h0, _⟩ | ⟨T', cap0, cur, hT, hBT, hg1, hnc, hcm0, hcs, htk⟩
  · cases h0
  · simp at hT
    obtain ⟨rfl, rfl⟩ := hT
    exact ⟨cur, hg1, by simpa using hcs⟩

theorem pos_ready {w w1 : World} {T : Nat} {a : Option Addr} {l : List UInt8} (hc : 0 < l.length → ∃ ad, a = some ad ∧ ∀ j v, (l.map bv)[j]? = some v → w.cell? (ad.add j) = some v) (hb : Below w.heap.size w w1) :
    0 < (l.map bv).length → some (⟨T, 0, none⟩ : Addr) = some ⟨T, 0, none⟩ ∧ ∃ ad, a = some ad ∧ ∀ j v, (l.map bv)[j]? = some v → w1.cell? (ad.add j) = some v := fun h => by
  rw [List.length_map] at h
  obtain ⟨ad, h1, h2⟩ := hc h
  refine ⟨rfl, ad, h1, fun j v hj => ?_⟩
  have h3 := h2 j v hj
  rw [hb.cell (World.block_lt_of_cell? w _ h3)]
  exact h3

set_option maxHeartbeats 400000 in
theorem rnew_any (a : Option Addr) (len cap : Nat) (l : List UInt8) (w : World) (hx : Bys w (.slice a len cap) l) (hl : l.length ≤ 140737488351232) :
    Calls Try.prog 43 #[.slice a len cap] w fun e w' => ∃ R, e = .returned (.pointer (some ⟨R, 0, none⟩)) ∧ w.heap.size ≤ R ∧ IsRd w' R w'.heap.size l 0 0 ∧ Below w.heap.size w w' := by
  obtain ⟨i0, hi, hz0, hz1, hz2⟩ := info_parts info_byte
  obtain ⟨hlen, hc⟩ := bys_cells hx
  have HX := Lib.hid hx
  have HC := Lib.hid hc
  have HLen := Lib.hid hlen
  have hll : len ≤ 140737488351232 := by omega
  clear hx hc hlen hl
  go_enter Try.func43, Try.ntmps43
  go_wp2_with (first | (at_make; refine wpList_make_full _ rfl _ _ 34 rfl w.heap.size 5 i0 (.int .u8 0) 1 Try.underlying34 hi hz0 hz1 _ _ _ _ len rfl rfl rfl rfl (by rw [hz2]; omega) (by unfold maxLen; omega) (Nat.le_refl _) ?_; intro w1 hown hgrow; (obtain ⟨cur, hg1, hcs⟩ := made hown); (have HB := Lib.hid ((Below.refl _ w).grown hgrow (Nat.le_refl _) (by simp))); (have HG := Lib.hid hg1); (have HCs := Lib.hid hcs); (have HPos := Lib.hid (pos_ready (T := w.heap.size) HC.out HB.out)); clear hown hgrow hg1 hcs) | (refine wpList_copy_splice rfl (.tmp 7) (.tmp 8) 34 34 rfl 5 Try.underlying34 (by kernel_rfl) _ _ _ _ _ _ rfl rfl w.heap.size 0 cur.toList 5 HG.out (l.map bv) (by rw [List.length_map, ← HLen.out]; show _ = min _ _; omega) HPos.out (by rw [List.length_map, ← HLen.out]; simp [HCs.out]) (one_bv l) w.heap.size w HB.out (Nat.le_refl _) ?_; intro w2 hg2 hb2; (have HB2 := Lib.hid hb2); clear hb2))
  go_wp2
  go_ret
  have hlen := HLen.out
  have hgs : w.heap.size < w2.heap.size := by
    have := hg2.out
    exact (Array.getElem?_eq_some_iff.1 this).1
  refine ⟨w2.heap.size, rfl, HB2.out.size, ⟨some ⟨w.heap.size, 0, none⟩, len, ?_, Nat.zero_le _, by omega, ⟨by omega, by unfold maxLen; omega, Nat.le_refl _⟩, .inr ⟨w.heap.size, rfl, by omega, by rw [World.size_alloc]; omega, fun i hi => ?_⟩⟩, HB2.out.alloc HB2.out.size _⟩
  · rw [← HLen.out]
    exact heap_alloc_new w2 _
  · have h1 : (w2.alloc (.cells #[.slice (some ⟨w.heap.size, 0, none⟩) len len, .int .i64 0, .int .i64 0] 109)).heap[w.heap.size]? = some (.cells (splice cur.toList 0 (l.map bv)).toArray 5 (0, 0)) := by
      rw [Below.heap_alloc _ _ _ hgs]; exact hg2.out
    refine (cell_of_heap h1).trans ?_
    have e : splice cur.toList 0 (l.map bv) = l.map bv := by
      have := HCs.out
      have := HLen.out
      simp [splice]
      omega
    rw [e]
    simp [hi]

end Go.Proofs.Ytgbhfolbkgibfaa

/- A nil reader: attempt, and its calls. -/
namespace Go.Proofs.Ytgbhfolbkgibfaa
set_option maxRecDepth 20000
open Go.RowKit BinMath

end Go.Proofs.Ytgbhfolbkgibfaa

/- The reference's reader: a byte, the end, what is left. -/
namespace Go.Proofs.Ytgbhfolbkgibfaa
set_option maxRecDepth 20000
open Go.RowKit BinMath
variable {G : Nat} {a : Option Addr} {cap : Nat}

end Go.Proofs.Ytgbhfolbkgibfaa

/- The reference's reader: a number. -/
namespace Go.Proofs.Ytgbhfolbkgibfaa
set_option maxRecDepth 20000
open Go.RowKit BinMath
variable {G : Nat} {a : Option Addr} {cap : Nat}

end Go.Proofs.Ytgbhfolbkgibfaa

