/- attempt: one reading; if it gives up, the reader is stuck. -/
import Derived.Test.YtleoiklcddkgdaaBinRead
namespace Go.Proofs.Ytleoiklcddkgdaa
open Go.RowKit BinMath
variable {G : Nat}

theorem frame_ap (p q s x : Value) : #[p, q, s] ++ ((Array.replicate 25 undef).setIfInBounds 3 x).setIfInBounds 0 x = #[p, q, s, x, undef, undef, x, undef, undef, undef, undef, undef, undef, undef, undef, undef, undef, undef, undef, undef, undef, undef, undef, undef, undef, undef, undef, undef] := by
  apply Array.ext'
  simp only [Array.toList_append, Array.toList_setIfInBounds, Array.toList_replicate]
  rfl

set_option maxHeartbeats 400000 in
/-- The deferred closure, nothing to recover. -/
theorem caught_idle (p q s : Value) (w : World) :
    CallsD Try.prog 63 #[p, q, s] .returning w fun e u' w' => e = .returned (.tuple #[]) ∧ u' = .returning ∧ w' = w := by
  refine callsD_of_wpS Try.func63 rfl fun c₀ cs hu => ?_
  apply wpS_seq
  apply wpS_region
  simp [wpOpsS, go_sem, recoverD, hu, Try.ntmps63, Exit.thenS]
  rw [frame_ap]
  refine wpS_of_wp ?_
  go_wp2
  cases c₀
  simp_all [bodyPostS, results, Try.results63]

/-- The reader where it stood, stuck. -/
theorem stuck_step {w : World} {R : Nat} {l : List UInt8} {k' k : Nat} {c : Int} (h : IsRd w R G l k' 0) (hk : k ≤ l.length) : IsRd ((w.setCell ⟨R, 1, none⟩ (.int .i64 (k : Int))).setCell ⟨R, 2, none⟩ (.int .i64 c)) R G l k c :=
  h.to (by simp [World.setCell]) (fun g _ hg => (heap_set_other hg _).trans (heap_set_other hg _)) (fun b cap hR => by rw [heap_set_same (heap_set_same hR _)]; rfl) hk

theorem is_unread (v : Value) (w : World) : (Instr.typeAssert (.iface 85 v) 20 85 true).run Try.prog w = .ok (.tuple #[v, .bool true]) w := by kernel_rfl

/-- The reader stands at k, stuck by c, which the variable E holds. -/
def Caught (G E R : Nat) (l : List UInt8) (k : Nat) (c : Int) (w w' : World) : Prop := IsRd w' R G l k c ∧ w'.heap[E]? = some (.cells #[.int .i64 c] 29 (0, 0)) ∧ OnlyS (fun b => b = R ∨ b = E) w w'

theorem caught_close {E R : Nat} {l : List UInt8} {k k' : Nat} {c x : Int} {w : World} (hGE : G ≤ E) (hr : IsRd w R G l k' 0) (hk : k ≤ l.length) (hE : w.heap[E]? = some (.cells #[.int .i64 x] 29 (0, 0))) (hne : ¬ E = R) (sE : E < w.heap.size) (o : Obj) :
    Caught G E R l k c w ((((w.setCell ⟨R, 1, none⟩ (.int .i64 (k : Int))).setCell ⟨R, 2, none⟩ (.int .i64 c)).setCell ⟨E, 0, none⟩ (.int .i64 c)).alloc o).drew := by
  have h1 := stuck_step (c := c) hr hk
  have e1 : ((w.setCell ⟨R, 1, none⟩ (.int .i64 (k : Int))).setCell ⟨R, 2, none⟩ (.int .i64 c)).heap[E]? = some (.cells #[.int .i64 x] 29 (0, 0)) := by
    rw [heap_set_other (by omega), heap_set_other (by omega)]; exact hE
  refine ⟨?_, ?_, ?_⟩
  · exact h1.only (S := fun b => b = E) (((OnlyS.refl (fun b => b = E) _).setCell (p := ⟨E, 0, none⟩) (fun _ => rfl) _).alloc o).drew (fun b hb he => by omega) (fun he => hne he.symm)
  · show (World.alloc _ o).heap[E]? = _
    rw [Below.heap_alloc _ _ _ (by simpa [World.setCell] using sE), heap_set_same e1]
    rfl
  · exact (((((OnlyS.refl _ w).setCell (p := ⟨R, 1, none⟩) (fun _ => .inl rfl) _).setCell (p := ⟨R, 2, none⟩) (fun _ => .inl rfl) _).setCell (p := ⟨E, 0, none⟩) (fun _ => .inr rfl) _).alloc o).drew

set_option maxHeartbeats 1000000 in
/-- The deferred closure behind a reading that gave up: A is the variable of the place, B of the reader, E of the error. -/
theorem caught_one (A B E R : Nat) (hGE : G ≤ E) (l : List UInt8) (k k' : Nat) (c x : Int) (w : World) (hr : IsRd w R G l k' 0) (hk : k ≤ l.length)
    (hA : w.heap[A]? = some (.cells #[.int .i64 (k : Int)] 3 (0, 0))) (hB : w.heap[B]? = some (.cells #[.pointer (some ⟨R, 0, none⟩)] 50 (0, 0))) (hE : w.heap[E]? = some (.cells #[.int .i64 x] 29 (0, 0))) (hne : A ≠ R ∧ B ≠ R ∧ E ≠ R ∧ A ≠ E ∧ B ≠ E) :
    CallsD Try.prog 63 #[.pointer (some ⟨A, 0, none⟩), .pointer (some ⟨B, 0, none⟩), .pointer (some ⟨E, 0, none⟩)] (.panicking (gaveUp c)) w fun e u' w' =>
      e = .returned (.tuple #[]) ∧ u' = .panicking [{ v := .iface 85 (.agg #[.int .i64 c]), recovered := true }] ∧ Caught G E R l k c w w' := by
  have cA : w.cell? ⟨A, 0, none⟩ = some (.int .i64 (k : Int)) := by rw [cell_of_heap hA]; rfl
  have cB : w.cell? ⟨B, 0, none⟩ = some (.pointer (some ⟨R, 0, none⟩)) := by rw [cell_of_heap hB]; rfl
  have cE : w.cell? ⟨E, 0, none⟩ = some (.int .i64 x) := by rw [cell_of_heap hE]; rfl
  have fE : w.frozen? ⟨E, 0, none⟩ = false := free_of_heap hE
  have HR := Lib.hid hr
  obtain ⟨b, cap, hRh, -⟩ := hr
  have r1 : w.cell? ⟨R, 1, none⟩ = some (.int .i64 (k' : Int)) := by rw [cell_of_heap hRh]; rfl
  have r2 : w.cell? ⟨R, 2, none⟩ = some (.int .i64 0) := by rw [cell_of_heap hRh]; rfl
  have f1 : w.frozen? ⟨R, 1, none⟩ = false := free_of_heap hRh
  have f2 : w.frozen? ⟨R, 2, none⟩ = false := free_of_heap hRh
  refine callsD_of_wpS Try.func63 rfl fun c₀ cs hu => ?_
  apply wpS_seq
  apply wpS_region
  simp [wpOpsS, go_sem, recoverD, hu, gaveUp, Try.ntmps63, Exit.thenS]
  rw [frame_ap]
  refine wpS_of_wp ?_
  have hta := is_unread (.agg #[.int .i64 c])
  have sA : A < w.heap.size := (Array.getElem?_eq_some_iff.1 hA).1
  have sB : B < w.heap.size := (Array.getElem?_eq_some_iff.1 hB).1
  have sE : E < w.heap.size := (Array.getElem?_eq_some_iff.1 hE).1
  have sR : R < w.heap.size := (Array.getElem?_eq_some_iff.1 hRh).1
  have HE := Lib.hid hE
  obtain ⟨n1, n2, n3, n4, n5⟩ := hne
  have m1 : ¬ A = R := n1
  have m2 : ¬ B = R := n2
  have m3 : ¬ E = R := n3
  have m3' : ¬ R = E := fun h => n3 h.symm
  have m4 : ¬ w.heap.size = R := by omega
  clear hA hB hE hRh n1 n2 n3 n4 n5
  go_wp2
  go_region
  all_goals go_wp2
  all_goals simp [bodyPostS, results, Try.results63]
  all_goals exact caught_close hGE HR.out hk HE.out m3 sE _
/-- What a reading does, as attempt asks it: it ends, or gives up; it may write the blocks of S. -/
def Reads (G R : Nat) (l : List UInt8) (S : Nat → Prop) (Ok : Nat → World → Prop) (Bad : Int → World → Prop) (w1 : World) (e : Ending) (w2 : World) : Prop :=
  ∃ k', IsRd w2 R G l k' 0 ∧ OnlyS S w1 w2 ∧ ((e = .returned (.tuple #[]) ∧ Ok k' w2) ∨ ∃ c, e = .panicked (gaveUp c) ∧ Bad c w2)

/-- How attempt ends. w2: the world behind the reading; from there only the reader and attempt's own variables turned. -/
def Attempted (G R : Nat) (l : List UInt8) (k : Nat) (S : Nat → Prop) (Ok : Nat → World → Prop) (Bad : Int → World → Prop) (w : World) (e : Ending) (w' : World) : Prop :=
  ∃ w2, w.heap.size + 3 ≤ w2.heap.size ∧ OnlyS S w w' ∧ OnlyS (fun b => b = R ∨ (w.heap.size ≤ b ∧ b < w.heap.size + 3)) w2 w' ∧
    ((∃ k', e = .returned (.int .i64 0) ∧ IsRd w' R G l k' 0 ∧ Ok k' w2) ∨ ∃ c, e = .returned (.int .i64 c) ∧ IsRd w' R G l k c ∧ Bad c w2)

set_option maxHeartbeats 1000000 in
theorem attempt_any (F : FuncId) (caps : Array Value) (hF : ∀ (args : Array Value) (w : World), (callFunc F args).run Try.prog w = .ok (.enter F args) w)
    (R : Nat) (l : List UInt8) (k : Nat) (w : World) (h : IsRd w R G l k 0) (S : Nat → Prop) (Ok : Nat → World → Prop) (Bad : Int → World → Prop) (hSR : S R) (hS : ∀ b, S b → b < w.heap.size)
    (hread : ∀ w1, Below w.heap.size w w1 → w1.heap.size = w.heap.size + 3 → Calls Try.prog F (#[.pointer (some ⟨R, 0, none⟩)] ++ caps) w1 (Reads G R l S Ok Bad w1)) :
    Calls Try.prog 48 #[.pointer (some ⟨R, 0, none⟩), .func (.func F) #[] caps] w (Attempted G R l k S Ok Bad w) := by
  have hmf : ∀ (fn : Fn) (first cap : Array Value) (w : World), (Instr.makeFunc fn first cap).run Try.prog w = .ok (.func fn first cap) w := fun _ _ _ _ => rfl
  have HI := Lib.hid h
  have HRead := Lib.hid hread
  have HS := Lib.hid hS
  obtain ⟨b, cap, hRh, hkl, -⟩ := h
  have r1 : w.cell? ⟨R, 1, none⟩ = some (.int .i64 (k : Int)) := by rw [cell_of_heap hRh]; rfl
  have r2 : w.cell? ⟨R, 2, none⟩ = some (.int .i64 0) := by rw [cell_of_heap hRh]; rfl
  have sR : R < w.heap.size := (Array.getElem?_eq_some_iff.1 hRh).1
  have m4 : ¬ w.heap.size = R := by omega
  clear hRh hread hS
  go_enter_defers Try.func48, Try.ntmps48
  go_wp2_with fail
  obtain ⟨w1, hw1⟩ : ∃ w1, w1 = ((w.alloc (.cells #[.pointer (some ⟨R, 0, none⟩)] 50)).alloc (.cells #[.int .i64 0] 29)).alloc (.cells #[.int .i64 (k : Int)] 3) := ⟨_, rfl⟩
  rw [← hw1]
  have hb1 : Below w.heap.size w w1 := by rw [hw1]; exact (((Below.refl _ w).alloc (Nat.le_refl _) _).alloc (by simp) _).alloc (by simp only [World.size_alloc]; omega) _
  have hs1 : w1.heap.size = w.heap.size + 3 := by rw [hw1]; simp
  have b0 : w1.heap[w.heap.size]? = some (.cells #[.pointer (some ⟨R, 0, none⟩)] 50 (0, 0)) := by
    rw [hw1, Below.heap_alloc _ _ _ (by simp only [World.size_alloc]; omega), Below.heap_alloc _ _ _ (by simp)]; exact heap_alloc_new w _
  have e0 : w1.heap[w.heap.size + 1]? = some (.cells #[.int .i64 0] 29 (0, 0)) := by
    rw [hw1, Below.heap_alloc _ _ _ (by simp)]
    have := heap_alloc_new (w.alloc (.cells #[.pointer (some ⟨R, 0, none⟩)] 50)) (.cells #[.int .i64 0] 29)
    simpa using this
  have a0 : w1.heap[w.heap.size + 1 + 1]? = some (.cells #[.int .i64 (k : Int)] 3 (0, 0)) := by
    rw [hw1]
    have := heap_alloc_new ((w.alloc (.cells #[.pointer (some ⟨R, 0, none⟩)] 50)).alloc (.cells #[.int .i64 0] 29)) (.cells #[.int .i64 (k : Int)] 3)
    simpa using this
  clear hw1
  refine (HRead.out w1 hb1 hs1).mono ?_
  rintro e w2 ⟨k', hr2, ho2, hcase⟩
  have hfar : ∀ b, w.heap.size ≤ b → b < w.heap.size + 3 → w2.heap[b]? = w1.heap[b]? := fun b h1 h2 => ho2.block b (by omega) (fun hs => by have := HS.out b hs; omega)
  have b2 := (hfar w.heap.size (by omega) (by omega)).trans b0
  have e2 := (hfar (w.heap.size + 1) (by omega) (by omega)).trans e0
  have a2 := (hfar (w.heap.size + 1 + 1) (by omega) (by omega)).trans a0
  have hs2 : w1.heap.size ≤ w2.heap.size := ho2.size
  have hoW : OnlyS S w w2 := (OnlyS.of_below hb1 (fun k hk _ => hk)).trans ho2
  clear b0 e0 a0 hfar
  rcases hcase with ⟨rfl, hok⟩ | ⟨c, rfl, hbad⟩
  · have ce : w2.cell? ⟨w.heap.size + 1, 0, none⟩ = some (.int .i64 0) := by rw [cell_of_heap e2]; rfl
    have fe : w2.frozen? ⟨w.heap.size + 1, 0, none⟩ = false := free_of_heap e2
    have HE := Lib.hid e2
    clear b2 e2 a2 HRead r1 r2
    have HB1 := Lib.hid hb1
    have HR2 := Lib.hid hr2
    have HO2 := Lib.hid ho2
    have HOk := Lib.hid hok
    have HoW := Lib.hid hoW
    have Hs1 := Lib.hid hs1
    clear hb1 hr2 ho2 hok hoW hs1
    go_wp2
    refine leaves_cons (f := 63) (args := #[.pointer (some ⟨w.heap.size + 1 + 1, 0, none⟩), .pointer (some ⟨w.heap.size, 0, none⟩), .pointer (some ⟨w.heap.size + 1, 0, none⟩)]) (by simp) (by simp [go_sem]) ?_
    refine (caught_idle _ _ _ _).mono ?_
    rintro e u' w3 ⟨rfl, rfl, rfl⟩
    have cE : (w2.setCell ⟨w.heap.size + 1, 0, none⟩ (.int .i64 0)).cell? ⟨w.heap.size + 1, 0, none⟩ = some (.int .i64 0) := by rw [cell_of_heap (heap_set_same HE.out _)]; rfl
    have fin : Attempted G R l k S Ok Bad w (.returned (.int .i64 0)) (w2.setCell ⟨w.heap.size + 1, 0, none⟩ (.int .i64 0)) :=
      ⟨w2, by have := Hs1.out; omega, HoW.out.setCell (fun h => by simp at h; omega) _, (OnlyS.refl _ w2).setCell (fun _ => .inr ⟨by simp, by simp⟩) _, .inl ⟨k', rfl, HR2.out.only (S := fun b => b = w.heap.size + 1) ((OnlyS.refl (fun b => b = w.heap.size + 1) _).setCell (p := ⟨w.heap.size + 1, 0, none⟩) (fun _ => rfl) _) (fun b hb he => by have := HI.out.facts; omega) (by omega), HOk.out⟩⟩
    clear ce fe
    simp [Leaves, settle, results, Try.results48, go_sem, cE, fin]
  · have HB1 := Lib.hid hb1
    have HR2 := Lib.hid hr2
    have HO2 := Lib.hid ho2
    have HBad := Lib.hid hbad
    have HoW := Lib.hid hoW
    have sz : w.heap.size + 3 ≤ w2.heap.size := by omega
    clear hb1 hr2 ho2 hbad hoW hs1 hs2 HRead r1 r2
    refine leaves_cons (f := 63) (args := #[.pointer (some ⟨w.heap.size + 1 + 1, 0, none⟩), .pointer (some ⟨w.heap.size, 0, none⟩), .pointer (some ⟨w.heap.size + 1, 0, none⟩)]) (by simp) (by simp [go_sem]) ?_
    refine (caught_one (w.heap.size + 1 + 1) w.heap.size (w.heap.size + 1) R (by have := HI.out.facts; omega) l k k' c 0 w2 HR2.out hkl a2 b2 e2 (by omega)).mono ?_
    rintro e u' w3 ⟨rfl, rfl, hc⟩
    have cE : w3.cell? ⟨w.heap.size + 1, 0, none⟩ = some (.int .i64 c) := by rw [cell_of_heap hc.2.1]; rfl
    have fin : Attempted G R l k S Ok Bad w (.returned (.int .i64 c)) w3 :=
      ⟨w2, sz, HoW.out.then hc.2.2 (fun b hb h => by rcases h with rfl | rfl; exact hSR; omega), hc.2.2.mono (fun b hb h => by rcases h with rfl | rfl; exact .inl rfl; exact .inr ⟨by omega, by omega⟩), .inr ⟨c, rfl, hc.1, HBad.out⟩⟩
    simp [Leaves, settle, results, Try.results48, go_sem, cE, fin]
end Go.Proofs.Ytleoiklcddkgdaa
