/- Package quit: work that gives up, and is caught. -/
import Derived.Test.YthaggdkfaglgaaaDoorOnly
import Derived.Test.YthaggdkfaglgaaaDoorBys
import Derived.Lib.Hide
import Derived.BigQuiet
import Derived.Deep.QuietTactic
namespace Go.Proofs.YthaggdkfaglgaaaDoor
set_option maxRecDepth 20000
open Go.RowKit

/-- What work that gives up panics with. -/
def gaveUp (c : Int) : List PanicEntry := [{ v := .iface 68 (.agg #[.int .i64 c]), recovered := false }]

/-- It ends, or gives up. -/
def Gives (c : Int) (e : Ending) : Prop := (c = 0 → e = .returned (.tuple #[])) ∧ (c ≠ 0 → e = .panicked (gaveUp c))

theorem quit_ok (w : World) : Calls Tryd.prog 38 #[.int .i64 0] w fun e w' => e = .returned (.tuple #[]) ∧ w' = w := by
  go_enter Tryd.func38, Tryd.ntmps38
  go_wp2
  exact ⟨rfl, .tuple #[], by simp [results, Tryd.results38, go_sem], rfl, rfl⟩

theorem quit_bad (c : Int) (hc : c ≠ 0) (w : World) : Calls Tryd.prog 38 #[.int .i64 c] w fun e w' => e = .panicked (gaveUp c) ∧ w' = w := by
  have q : (c == 0) = false := by simpa using hc
  have q' : (c != 0) = true := by simpa using hc
  clear hc
  go_enter Tryd.func38, Tryd.ntmps38
  go_wp2
  exact ⟨rfl, rfl, rfl⟩

theorem quit_any (c : Int) (w : World) : Calls Tryd.prog 38 #[.int .i64 c] w fun e w' => Gives c e ∧ w' = w := by
  by_cases h : c = 0
  · subst h
    exact (quit_ok w).mono fun e w' ⟨h1, h2⟩ => ⟨⟨fun _ => h1, fun h => absurd rfl h⟩, h2⟩
  · exact (quit_bad c h w).mono fun e w' ⟨h1, h2⟩ => ⟨⟨fun h2 => absurd h2 h, fun _ => h1⟩, h2⟩

theorem frame_quit (p x : Value) : #[p] ++ ((Array.replicate 16 undef).setIfInBounds 3 x).setIfInBounds 0 x = #[p, x, undef, undef, x, undef, undef, undef, undef, undef, undef, undef, undef, undef, undef, undef, undef] := by
  apply Array.ext'
  simp only [Array.toList_append, Array.toList_setIfInBounds, Array.toList_replicate]
  rfl

set_option maxHeartbeats 400000 in
/-- The deferred closure, nothing to recover. -/
theorem quit_idle (p : Value) (w : World) :
    CallsD Tryd.prog 43 #[p] .returning w fun e u' w' => e = .returned (.tuple #[]) ∧ u' = .returning ∧ w' = w := by
  refine callsD_of_wpS Tryd.func43 rfl fun c₀ cs hu => ?_
  apply wpS_seq
  apply wpS_region
  simp [wpOpsS, go_sem, recoverD, hu, Tryd.ntmps43, Exit.thenS]
  rw [frame_quit]
  refine wpS_of_wp ?_
  go_wp2
  cases c₀
  simp_all [bodyPostS, results, Tryd.results43]

theorem is_refused (v : Value) (w : World) : (Instr.typeAssert (.iface 68 v) 20 68 true).run Tryd.prog w = .ok (.tuple #[v, .bool true]) w := by kernel_rfl

/-- What the closure leaves: the variable E holds c. -/
def QCaught (E : Nat) (c : Int) (w w' : World) : Prop := w'.heap[E]? = some (.cells #[.int .i64 c] 24 (0, 0)) ∧ OnlyS (fun b => b = E) w w'

theorem quit_close {E : Nat} {c x : Int} {w : World} (hE : w.heap[E]? = some (.cells #[.int .i64 x] 24 (0, 0))) (o : Obj) : QCaught E c w ((w.setCell ⟨E, 0, none⟩ (.int .i64 c)).alloc o) := by
  have sE : E < w.heap.size := (Array.getElem?_eq_some_iff.1 hE).1
  refine ⟨?_, ?_⟩
  · rw [Below.heap_alloc _ _ _ (by simpa [World.setCell] using sE), heap_set_same hE]
    rfl
  · exact (((OnlyS.refl (fun b => b = E) w).setCell (p := ⟨E, 0, none⟩) (fun _ => rfl) _).alloc o : OnlyS (fun b => b = E) w _)

set_option maxHeartbeats 1000000 in
theorem quit_one (E : Nat) (c x : Int) (w : World) (hE : w.heap[E]? = some (.cells #[.int .i64 x] 24 (0, 0))) :
    CallsD Tryd.prog 43 #[.pointer (some ⟨E, 0, none⟩)] (.panicking (gaveUp c)) w fun e u' w' =>
      e = .returned (.tuple #[]) ∧ u' = .panicking [{ v := .iface 68 (.agg #[.int .i64 c]), recovered := true }] ∧ QCaught E c w w' := by
  have cE : w.cell? ⟨E, 0, none⟩ = some (.int .i64 x) := by rw [cell_of_heap hE]; rfl
  have fE : w.frozen? ⟨E, 0, none⟩ = false := free_of_heap hE
  have hta := is_refused
  have sE : E < w.heap.size := (Array.getElem?_eq_some_iff.1 hE).1
  have HE := Lib.hid hE
  have m6 : ¬ w.heap.size = E := by omega
  clear hE
  refine callsD_of_wpS Tryd.func43 rfl fun c₀ cs' hu => ?_
  apply wpS_seq
  apply wpS_region
  simp [wpOpsS, go_sem, recoverD, hu, gaveUp, Tryd.ntmps43, Exit.thenS]
  rw [frame_quit]
  refine wpS_of_wp ?_
  go_wp2
  simp [bodyPostS, results, Tryd.results43]
  exact quit_close HE.out _

theorem enters (F : FuncId) (hfn : ((Tryd.prog.funcs[F]?).map fun fn => (fn.name == "runtime.NumGoroutine", fn.body.isNone)) = some (false, false)) (args : Array Value) (w : World) : (callFunc F args).run Tryd.prog w = .ok (.enter F args) w := by
  obtain ⟨fn, hf, hp⟩ := Option.map_eq_some_iff.1 hfn
  simp only [Prod.mk.injEq] at hp
  have h1 : fn.name ≠ "runtime.NumGoroutine" := by simpa using hp.1
  have h2 : fn.body ≠ none := by intro hh; have := hp.2; rw [hh] at this; cases this
  simp [callFunc, hf, h1, h2]

/-- What the work does, as Caught asks it: it ends, or gives up with c. -/
def Worked (w : World) (Q : Int → World → Prop) (w1 : World) (e : Ending) (w2 : World) : Prop :=
  ∃ c, Gives c e ∧ Q c w2 ∧ w1.heap.size ≤ w2.heap.size ∧ w2.heap[w.heap.size]? = w1.heap[w.heap.size]?

/-- How Caught ends; w2: the world behind the work. -/
def Tried (w : World) (Q : Int → World → Prop) (e : Ending) (w' : World) : Prop :=
  ∃ c w2, Q c w2 ∧ e = .returned (.int .i64 c) ∧ w.heap.size + 1 ≤ w2.heap.size ∧ OnlyS (fun b => b = w.heap.size) w2 w'

set_option maxHeartbeats 1000000 in
theorem caught_any (F : FuncId) (fs cs : Array Value) (hF : ∀ (args : Array Value) (w : World), (callFunc F args).run Tryd.prog w = .ok (.enter F args) w)
    (w : World) (Q : Int → World → Prop)
    (hwork : ∀ w1, Below w.heap.size w w1 → w1.heap.size = w.heap.size + 1 → Calls Tryd.prog F (fs ++ cs) w1 (Worked w Q w1)) :
    Calls Tryd.prog 35 #[.func (.func F) fs cs] w (Tried w Q) := by
  have hmf : ∀ (fn : Fn) (first cap : Array Value) (w : World), (Instr.makeFunc fn first cap).run Tryd.prog w = .ok (.func fn first cap) w := fun _ _ _ _ => rfl
  have HWork := Lib.hid hwork
  clear hwork
  go_enter_defers Tryd.func35, Tryd.ntmps35
  go_wp2_with fail
  obtain ⟨w1, hw1⟩ : ∃ w1, w1 = w.alloc (.cells #[.int .i64 0] 24) := ⟨_, rfl⟩
  rw [← hw1]
  have hb1 : Below w.heap.size w w1 := by rw [hw1]; exact (Below.refl _ w).alloc (Nat.le_refl _) _
  have hs1 : w1.heap.size = w.heap.size + 1 := by rw [hw1]; simp
  have e0 : w1.heap[w.heap.size]? = some (.cells #[.int .i64 0] 24 (0, 0)) := by rw [hw1]; exact heap_alloc_new w _
  clear hw1
  refine (HWork.out w1 hb1 hs1).mono ?_
  rintro e w2 ⟨c, hm, hq, hs2, hfar⟩
  have e2 := hfar.trans e0
  have HQ := Lib.hid hq
  have hsz : w.heap.size + 1 ≤ w2.heap.size := by omega
  have HSz := Lib.hid hsz
  have HE := Lib.hid e2
  clear e0 hfar hb1 hs1 hs2 hq hsz HWork
  by_cases hc : c = 0
  · obtain rfl := hm.1 hc
    subst hc
    have ce : w2.cell? ⟨w.heap.size, 0, none⟩ = some (.int .i64 0) := by rw [cell_of_heap e2]; rfl
    have fe : w2.frozen? ⟨w.heap.size, 0, none⟩ = false := free_of_heap e2
    clear e2 hm
    go_wp2
    refine leaves_cons (f := 43) (args := #[.pointer (some ⟨w.heap.size, 0, none⟩)]) (by simp) (by simp [go_sem]) ?_
    refine (quit_idle _ _).mono ?_
    rintro e u' w3 ⟨rfl, rfl, rfl⟩
    have cE : (w2.setCell ⟨w.heap.size, 0, none⟩ (.int .i64 0)).cell? ⟨w.heap.size, 0, none⟩ = some (.int .i64 0) := by rw [cell_of_heap (heap_set_same HE.out _)]; rfl
    have fin : Tried w Q (.returned (.int .i64 0)) (w2.setCell ⟨w.heap.size, 0, none⟩ (.int .i64 0)) :=
      ⟨0, w2, HQ.out, rfl, HSz.out, (OnlyS.refl (fun b => b = w.heap.size) w2).setCell (p := ⟨w.heap.size, 0, none⟩) (fun _ => rfl) _⟩
    clear ce fe
    simp [Leaves, settle, results, Tryd.results35, go_sem, cE, fin]
  · obtain rfl := hm.2 hc
    have HC := Lib.hid hc
    clear e2 hm
    refine leaves_cons (f := 43) (args := #[.pointer (some ⟨w.heap.size, 0, none⟩)]) (by simp) (by simp [go_sem]) ?_
    refine (quit_one w.heap.size c 0 w2 HE.out).mono ?_
    rintro e u' w3 ⟨rfl, rfl, h1, h2⟩
    have cE : w3.cell? ⟨w.heap.size, 0, none⟩ = some (.int .i64 c) := by rw [cell_of_heap h1]; rfl
    have fin : Tried w Q (.returned (.int .i64 c)) w3 := ⟨c, w2, HQ.out, rfl, HSz.out, h2⟩
    simp [Leaves, settle, results, Tryd.results35, go_sem, cE, fin]
end Go.Proofs.YthaggdkfaglgaaaDoor
