/- The reader's calls: a byte, a number, a text, the end. -/
import Derived.Test.YthaggdkfaglgaaaDoorBinAttempt
namespace Go.Proofs.YthaggdkfaglgaaaDoor
set_option maxRecDepth 20000
open Go.RowKit BinMath
variable {G : Nat}

set_option maxHeartbeats 400000 in
theorem attempt_stuck (F : FuncId) (caps : Array Value) (R : Nat) (l : List UInt8) (k : Nat) (st : Int) (w : World) (h : IsRd w R G l k st) (hst : st ≠ 0) :
    Calls Tryd.prog 26 #[.pointer (some ⟨R, 0, none⟩), .func (.func F) #[] caps] w fun e w' => e = .returned (.int .i64 st) ∧ Below w.heap.size w w' := by
  obtain ⟨b, cap, hRh, hkl, -⟩ := h
  have r2 : w.cell? ⟨R, 2, none⟩ = some (.int .i64 st) := by rw [cell_of_heap hRh]; rfl
  have sR : R < w.heap.size := (Array.getElem?_eq_some_iff.1 hRh).1
  have m4 : ¬ w.heap.size = R := by omega
  have hs : (st != 0) = true := by simpa using hst
  clear hRh hst
  go_enter Tryd.func26, Tryd.ntmps26
  go_wp2
  go_ret
  exact ⟨rfl, ((Below.refl _ w).alloc (Nat.le_refl _) _).alloc (by simp) _⟩

/-- A variable of the caller's: block N holds u, alone. -/
def OneVar (w : World) (N : Nat) (t : TypeId) (u : Value) : Prop := w.heap[N]? = some (.cells #[u] t (0, 0))

set_option maxHeartbeats 400000 in
theorem num1_any (R N : Nat) (l : List UInt8) (k : Nat) (w : World) (h : IsRd w R G l k 0) (hN : OneVar w N 41 (.int .u64 0)) (hne : N ≠ R) (hGN : G ≤ N) :
    Calls Tryd.prog 27 #[.pointer (some ⟨R, 0, none⟩), .pointer (some ⟨N, 0, none⟩)] w (Reads G R l (fun b => b = R ∨ b = N)
      (fun k' w2 => ∃ n u, pNum (l.drop k) = .ok (n, u) ∧ k' = k + u ∧ OneVar w2 N 41 (.int .u64 (n : Int)))
      (fun c w2 => ∃ c' : Nat, c = c' ∧ pNum (l.drop k) = .error c' ∧ OneVar w2 N 41 (.int .u64 0)) w) := by
  have hC := number_any l k R 0 w h
  have sN : N < w.heap.size := (Array.getElem?_eq_some_iff.1 hN).1
  go_enter Tryd.func27, Tryd.ntmps27
  go_wp2_with fail
  refine hC.mono ?_
  rintro e w2 ⟨k', hr, ho, hm⟩
  have hN2 : OneVar w2 N 41 (.int .u64 0) := (ho.block N sN hne).trans hN
  cases hp : pNum (l.drop k) with
  | error c =>
    rw [hp] at hm
    obtain rfl := hm
    exact ⟨rfl, k', hr, OnlyS.of_only ho (.inl rfl), .inr ⟨_, by have := pNum_code hp; omega, rfl, c, rfl, hp, hN2⟩⟩
  | ok p =>
    obtain ⟨n, u⟩ := p
    rw [hp] at hm
    obtain ⟨rfl, rfl⟩ := hm
    have cN : w2.cell? ⟨N, 0, none⟩ = some (.int .u64 0) := by rw [cell_of_heap hN2]; rfl
    have fN : w2.frozen? ⟨N, 0, none⟩ = false := free_of_heap hN2
    have HP := Lib.hid hp
    have HR := Lib.hid hr
    have HO := Lib.hid ho
    have HN := Lib.hid hN2
    clear hp hr ho hN2 hC hN
    go_wp2
    go_end0
    refine ⟨k + u, HR.out.only (S := fun b => b = N) ((OnlyS.refl (fun b => b = N) _).setCell (p := ⟨N, 0, none⟩) (fun _ => rfl) _) (fun b hb he => by omega) (fun he => hne he.symm), (OnlyS.of_only HO.out (.inl rfl)).setCell (p := ⟨N, 0, none⟩) (fun _ => .inr rfl) _, .inl ⟨rfl, n, u, HP.out, rfl, ?_⟩⟩
    exact heap_set_same HN.out _

/-- A row is where it was. -/
theorem row_only {w w' : World} {B : Nat} {v : Value} {l : List UInt8} (h : Row w B v l) (hk : ∀ g, B ≤ g → w'.heap[g]? = w.heap[g]?) : Row w' B v l := by
  refine ⟨h.1, ?_⟩
  rcases h.2 with h2 | ⟨g, cap, cur, hv, hB, hg, r⟩
  · exact .inl h2
  · exact .inr ⟨g, cap, cur, hv, hB, by rw [hk g hB]; exact hg, r⟩

/-- How a call of the reader ends: v the value, c the error, k' the place behind. -/
def Answers (G R : Nat) (l : List UInt8) (w : World) (v : Value) (c k' : Nat) (e : Ending) (w' : World) : Prop :=
  Only R w w' ∧ e = .returned (.tuple #[v, .int .i64 (c : Int)]) ∧ IsRd w' R G l k' c

set_option maxHeartbeats 400000 in
theorem rdNum_ok (R : Nat) (l : List UInt8) (k : Nat) (w : World) (h : IsRd w R G l k 0) :
    Calls Tryd.prog 16 #[.pointer (some ⟨R, 0, none⟩)] w (Answers G R l w (.int .u64 ((numS l k 0).1 : Int)) (numS l k 0).2.1 (numS l k 0).2.2) := by
  have hmf : ∀ (fn : Fn) (first cap : Array Value) (w : World), (Instr.makeFunc fn first cap).run Tryd.prog w = .ok (.func fn first cap) w := fun _ _ _ _ => rfl
  have hf := h.facts
  have hA := attempt_any 27 #[.pointer (some ⟨w.heap.size, 0, none⟩)] (enters _ (by kernel_rfl)) R l k (w.alloc (.cells #[.int .u64 0] 41)) (h.below ((Below.refl _ _).alloc (Nat.le_refl _) _)) (fun b => b = R ∨ b = w.heap.size) _ _ (.inl rfl)
    (fun b hb => by rw [World.size_alloc]; omega)
    (fun w1 hb1 hs1 => by
      have hN : OneVar w1 w.heap.size 41 (.int .u64 0) := by
        unfold OneVar
        rw [hb1.block _ (by simp)]
        exact heap_alloc_new w _
      exact num1_any R w.heap.size l k w1 ((h.below ((Below.refl _ _).alloc (Nat.le_refl _) _)).below hb1) hN (by omega) hf.2.2.2)
  have HA := Lib.hid hA
  clear hA
  obtain ⟨n, c, k0, hq⟩ : ∃ n c k0, numS l k 0 = (n, c, k0) := ⟨_, _, _, rfl⟩
  have HQ := Lib.hid hq
  rw [hq]
  clear hq
  go_enter Tryd.func16, Tryd.ntmps16
  go_wp2_with fail
  refine HA.out.mono ?_
  rintro e w' ⟨w2, hsz, ho, ho2, hcase⟩
  have hN' : w'.heap[w.heap.size]? = w2.heap[w.heap.size]? := ho2.block _ (by rw [World.size_alloc] at hsz; omega) (by rw [World.size_alloc]; omega)
  have hon : Only R w w' := (OnlyS.then (S := fun b => b = R) (OnlyS.of_below ((Below.refl _ w).alloc (Nat.le_refl _) _) (fun _ hk _ => hk)) ho (fun b hb h => by omega)).only (fun b _ h => h)
  have hall : e = .returned (.int .i64 (c : Int)) ∧ IsRd w' R G l k0 c ∧ OneVar w' w.heap.size 41 (.int .u64 (n : Int)) := by
    have hq := HQ.out
    rcases hcase with ⟨k', rfl, hr, m, u, hp, rfl, hv⟩ | ⟨d, rfl, hr, d', rfl, hp, hv⟩
    · simp only [numS, hp] at hq
      cases hq
      exact ⟨rfl, hr, hN'.trans hv⟩
    · simp only [numS, hp] at hq
      cases hq
      exact ⟨rfl, hr, hN'.trans hv⟩
  obtain ⟨rfl, hr, hv⟩ := hall
  have cN : w'.cell? ⟨w.heap.size, 0, none⟩ = some (.int .u64 (n : Int)) := by rw [cell_of_heap hv]; rfl
  have fN : w'.frozen? ⟨w.heap.size, 0, none⟩ = false := free_of_heap hv
  have HV := Lib.hid hv
  have HR := Lib.hid hr
  have HO := Lib.hid hon
  clear ho ho2 hcase hN' hon hv hr HA hsz
  go_wp2
  have cE : (w'.setCell ⟨w.heap.size, 0, none⟩ (.int .u64 (n : Int))).cell? ⟨w.heap.size, 0, none⟩ = some (.int .u64 (n : Int)) := by rw [cell_of_heap (heap_set_same HV.out _)]; rfl
  refine bodyPost_ret (v := .tuple #[.int .u64 (n : Int), .int .i64 (c : Int)]) (by simp [results, Tryd.results16, go_sem, cE]) rfl ⟨HO.out.setNew (Nat.le_refl _) _, rfl, ?_⟩
  exact HR.out.only (S := fun b => b = w.heap.size) ((OnlyS.refl (fun b => b = w.heap.size) _).setCell (p := ⟨w.heap.size, 0, none⟩) (fun _ => rfl) _) (fun b hb he => by omega) (by omega)

set_option maxHeartbeats 400000 in
theorem rdNum_stuck (R : Nat) (l : List UInt8) (k st : Nat) (w : World) (h : IsRd w R G l k st) (hst : st ≠ 0) :
    Calls Tryd.prog 16 #[.pointer (some ⟨R, 0, none⟩)] w (Answers G R l w (.int .u64 0) st k) := by
  have hmf : ∀ (fn : Fn) (first cap : Array Value) (w : World), (Instr.makeFunc fn first cap).run Tryd.prog w = .ok (.func fn first cap) w := fun _ _ _ _ => rfl
  have hf := h.facts
  have hA := attempt_stuck (G := G) 27 #[.pointer (some ⟨w.heap.size, 0, none⟩)] R l k st (w.alloc (.cells #[.int .u64 0] 41)) (h.below ((Below.refl _ _).alloc (Nat.le_refl _) _)) (by omega)
  have HA := Lib.hid hA
  have HI := Lib.hid h
  clear hA h hst
  go_enter Tryd.func16, Tryd.ntmps16
  go_wp2_with fail
  refine HA.out.mono ?_
  rintro e w' ⟨rfl, hb⟩
  have hv : OneVar w' w.heap.size 41 (.int .u64 0) := by
    unfold OneVar
    rw [hb.block _ (by simp)]
    exact heap_alloc_new w _
  have hbw : Below w.heap.size w w' := ((Below.refl _ w).alloc (Nat.le_refl _) _).trans (hb.mono (by simp))
  have cN : w'.cell? ⟨w.heap.size, 0, none⟩ = some (.int .u64 0) := by rw [cell_of_heap hv]; rfl
  have fN : w'.frozen? ⟨w.heap.size, 0, none⟩ = false := free_of_heap hv
  have HV := Lib.hid hv
  have HO := Lib.hid hbw
  clear hb hbw hv HA
  go_wp2
  have cE : (w'.setCell ⟨w.heap.size, 0, none⟩ (.int .u64 0)).cell? ⟨w.heap.size, 0, none⟩ = some (.int .u64 0) := by rw [cell_of_heap (heap_set_same HV.out _)]; rfl
  have hbf := HO.out.setCell (p := ⟨w.heap.size, 0, none⟩) (Nat.le_refl _) (.int .u64 0)
  exact bodyPost_ret (v := .tuple #[.int .u64 0, .int .i64 (st : Int)]) (by simp [results, Tryd.results16, go_sem, cE]) rfl ⟨Only.of_below hbf, rfl, HI.out.below hbf⟩

theorem rdNum_any (R : Nat) (l : List UInt8) (k st : Nat) (w : World) (h : IsRd w R G l k st) :
    Calls Tryd.prog 16 #[.pointer (some ⟨R, 0, none⟩)] w (Answers G R l w (.int .u64 ((numS l k st).1 : Int)) (numS l k st).2.1 (numS l k st).2.2) := by
  by_cases hst : st = 0
  · subst hst
    exact rdNum_ok R l k w h
  · have e : numS l k st = (0, st, k) := if_pos hst
    rw [e]
    exact rdNum_stuck R l k st w h hst

end Go.Proofs.YthaggdkfaglgaaaDoor
