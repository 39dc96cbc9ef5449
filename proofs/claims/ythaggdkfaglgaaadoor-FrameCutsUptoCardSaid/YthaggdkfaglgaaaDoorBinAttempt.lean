/- attempt: one reading; if it gives up, the reader is stuck. -/
import Derived.Test.YthaggdkfaglgaaaDoorBinRead
namespace Go.Proofs.YthaggdkfaglgaaaDoor
set_option maxRecDepth 20000
open Go.RowKit BinMath
variable {G : Nat}

/-- The reader where it stood, stuck. -/
theorem stuck_step {w : World} {R : Nat} {l : List UInt8} {k' k : Nat} {c : Int} (h : IsRd w R G l k' 0) (hk : k ≤ l.length) : IsRd ((w.setCell ⟨R, 1, none⟩ (.int .i64 (k : Int))).setCell ⟨R, 2, none⟩ (.int .i64 c)) R G l k c :=
  h.to (by simp [World.setCell]) (fun g _ hg => (heap_set_other hg _).trans (heap_set_other hg _)) (fun b cap hR => by rw [heap_set_same (heap_set_same hR _)]; rfl) hk

/-- What a reading does, as attempt asks it: it ends, or gives up; it may write the blocks of S. -/
def Reads (G R : Nat) (l : List UInt8) (S : Nat → Prop) (Ok : Nat → World → Prop) (Bad : Int → World → Prop) (w1 : World) (e : Ending) (w2 : World) : Prop :=
  ∃ k', IsRd w2 R G l k' 0 ∧ OnlyS S w1 w2 ∧ ((e = .returned (.tuple #[]) ∧ Ok k' w2) ∨ ∃ c, c ≠ 0 ∧ e = .panicked (gaveUp c) ∧ Bad c w2)

/-- How attempt ends. w2: the world behind the reading; from there only the reader and attempt's own variables turned. -/
def Attempted (G R : Nat) (l : List UInt8) (k : Nat) (S : Nat → Prop) (Ok : Nat → World → Prop) (Bad : Int → World → Prop) (w : World) (e : Ending) (w' : World) : Prop :=
  ∃ w2, w.heap.size + 3 ≤ w2.heap.size ∧ OnlyS S w w' ∧ OnlyS (fun b => b = R ∨ (w.heap.size ≤ b ∧ b < w.heap.size + 3)) w2 w' ∧
    ((∃ k', e = .returned (.int .i64 0) ∧ IsRd w' R G l k' 0 ∧ Ok k' w2) ∨ ∃ c, e = .returned (.int .i64 c) ∧ IsRd w' R G l k c ∧ Bad c w2)

/-- What the closure of attempt does: the reading, of the reader that its variable holds. -/
theorem reading_any (F : FuncId) (caps : Array Value) (hF : ∀ (args : Array Value) (w : World), (callFunc F args).run Tryd.prog w = .ok (.enter F args) w) (A B R : Nat) (w : World) (K : Ending → World → Prop)
    (hA : w.heap[A]? = some (.cells #[.func (.func F) #[] caps] 56 (0, 0))) (hB : w.heap[B]? = some (.cells #[.pointer (some ⟨R, 0, none⟩)] 39 (0, 0)))
    (hK : Calls Tryd.prog F (#[.pointer (some ⟨R, 0, none⟩)] ++ caps) w K) (hret : ∀ e w', K e w' → e = .returned (.tuple #[]) ∨ ∃ ps, e = .panicked ps) :
    Calls Tryd.prog 36 #[.pointer (some ⟨A, 0, none⟩), .pointer (some ⟨B, 0, none⟩)] w K := by
  have cA : w.cell? ⟨A, 0, none⟩ = some (.func (.func F) #[] caps) := by rw [cell_of_heap hA]; rfl
  have cB : w.cell? ⟨B, 0, none⟩ = some (.pointer (some ⟨R, 0, none⟩)) := by rw [cell_of_heap hB]; rfl
  have HK := Lib.hid hK
  have HRet := Lib.hid hret
  clear hA hB hK hret
  go_enter Tryd.func36, Tryd.ntmps36
  go_wp2_with fail
  refine HK.out.mono ?_
  rintro e w' hk
  rcases HRet.out e w' hk with rfl | ⟨ps, rfl⟩
  · go_wp2
    go_end0
    exact hk
  · exact ⟨rfl, hk⟩

set_option maxHeartbeats 1000000 in
theorem attempt_any (F : FuncId) (caps : Array Value) (hF : ∀ (args : Array Value) (w : World), (callFunc F args).run Tryd.prog w = .ok (.enter F args) w)
    (R : Nat) (l : List UInt8) (k : Nat) (w : World) (h : IsRd w R G l k 0) (S : Nat → Prop) (Ok : Nat → World → Prop) (Bad : Int → World → Prop) (hSR : S R) (hS : ∀ b, S b → b < w.heap.size)
    (hread : ∀ w1, Below w.heap.size w w1 → w1.heap.size = w.heap.size + 3 → Calls Tryd.prog F (#[.pointer (some ⟨R, 0, none⟩)] ++ caps) w1 (Reads G R l S Ok Bad w1)) :
    Calls Tryd.prog 26 #[.pointer (some ⟨R, 0, none⟩), .func (.func F) #[] caps] w (Attempted G R l k S Ok Bad w) := by
  have hmf : ∀ (fn : Fn) (first cap : Array Value) (w : World), (Instr.makeFunc fn first cap).run Tryd.prog w = .ok (.func fn first cap) w := fun _ _ _ _ => rfl
  have HI := Lib.hid h
  have HRead := Lib.hid hread
  have HS := Lib.hid hS
  obtain ⟨b, cap, hRh, hkl, -⟩ := h
  have r1 : w.cell? ⟨R, 1, none⟩ = some (.int .i64 (k : Int)) := by rw [cell_of_heap hRh]; rfl
  have r2 : w.cell? ⟨R, 2, none⟩ = some (.int .i64 0) := by rw [cell_of_heap hRh]; rfl
  have sR : R < w.heap.size := (Array.getElem?_eq_some_iff.1 hRh).1
  have m4 : ¬ w.heap.size = R := by omega
  clear hRh hread hS
  go_enter Tryd.func26, Tryd.ntmps26
  go_wp2_with fail
  obtain ⟨w0, hw0⟩ : ∃ w0, w0 = (w.alloc (.cells #[.pointer (some ⟨R, 0, none⟩)] 39)).alloc (.cells #[.func (.func F) #[] caps] 56) := ⟨_, rfl⟩
  rw [← hw0]
  have hb0 : Below w.heap.size w w0 := by rw [hw0]; exact ((Below.refl _ w).alloc (Nat.le_refl _) _).alloc (by simp) _
  have hs0 : w0.heap.size = w.heap.size + 2 := by rw [hw0]; simp
  have b0 : w0.heap[w.heap.size]? = some (.cells #[.pointer (some ⟨R, 0, none⟩)] 39 (0, 0)) := by
    rw [hw0, Below.heap_alloc _ _ _ (by simp)]; exact heap_alloc_new w _
  have a0 : w0.heap[w.heap.size + 1]? = some (.cells #[.func (.func F) #[] caps] 56 (0, 0)) := by
    rw [hw0]
    have := heap_alloc_new (w.alloc (.cells #[.pointer (some ⟨R, 0, none⟩)] 39)) (.cells #[.func (.func F) #[] caps] 56)
    simpa using this
  clear hw0
  have hC := caught_any 36 #[] #[.pointer (some ⟨w.heap.size + 1, 0, none⟩), .pointer (some ⟨w.heap.size, 0, none⟩)] (enters _ (by kernel_rfl)) w0
    (fun c w2 => OnlyS S w w2 ∧ (∃ k', IsRd w2 R G l k' 0 ∧ (c = 0 → Ok k' w2)) ∧ (c ≠ 0 → Bad c w2) ∧ w.heap.size + 3 ≤ w2.heap.size ∧ ∀ b, w.heap.size ≤ b → b < w.heap.size + 2 → w2.heap[b]? = w0.heap[b]?)
    (fun w1 hb1 hs1 => by
      have hbw : Below w.heap.size w w1 := hb0.trans (hb1.mono (by omega))
      refine (reading_any F caps hF (w.heap.size + 1) w.heap.size R w1 (Reads G R l S Ok Bad w1) ((hb1.block _ (by omega)).trans a0) ((hb1.block _ (by omega)).trans b0) (HRead.out w1 hbw (by omega)) ?_).mono ?_
      · rintro e w2 ⟨k', _, _, ⟨h, _⟩ | ⟨c, _, h, _⟩⟩
        · exact .inl h
        · exact .inr ⟨_, h⟩
      · rintro e w2 ⟨k', hr2, ho2, hcase⟩
        have hfar : ∀ b, w.heap.size ≤ b → b < w1.heap.size → w2.heap[b]? = w1.heap[b]? := fun b h1 h2 => ho2.block b h2 (fun hs => by have := HS.out b hs; omega)
        have hoW : OnlyS S w w2 := (OnlyS.of_below hbw (fun k hk _ => hk)).trans ho2
        have hsz := ho2.size
        have hkeep : ∀ b, w.heap.size ≤ b → b < w.heap.size + 2 → w2.heap[b]? = w0.heap[b]? := fun b h1 h2 => (hfar b h1 (by omega)).trans (hb1.block b (by omega))
        rcases hcase with ⟨rfl, hok⟩ | ⟨c, hc, rfl, hbad⟩
        · exact ⟨0, ⟨fun _ => rfl, fun h => absurd rfl h⟩, ⟨hoW, ⟨k', hr2, fun _ => hok⟩, fun h => absurd rfl h, by omega, hkeep⟩, hsz, hfar _ (by omega) (by omega)⟩
        · exact ⟨c, ⟨fun h => absurd h hc, fun _ => rfl⟩, ⟨hoW, ⟨k', hr2, fun h => absurd h hc⟩, fun _ => hbad, by omega, hkeep⟩, hsz, hfar _ (by omega) (by omega)⟩)
  have HC := Lib.hid hC
  have hsz0 := Lib.hid hs0
  have HB0 := Lib.hid b0
  clear hC hs0 b0 a0 hb0 r1 r2
  refine HC.out.mono ?_
  rintro e w3 ⟨c, w2, ⟨hoW, ⟨k', hr2, hok⟩, hbad, hsz, hkeep⟩, rfl, hsz2, ho3⟩
  rw [hsz0.out] at ho3
  have hR3 : IsRd w3 R G l k' 0 := hr2.only ho3 (fun b hb he => by have := HI.out.facts; omega) (by omega)
  have b3 : w3.heap[w.heap.size]? = some (.cells #[.pointer (some ⟨R, 0, none⟩)] 39 (0, 0)) := ((ho3.block _ (by omega) (by omega)).trans (hkeep _ (by omega) (by omega))).trans HB0.out
  have cB : w3.cell? ⟨w.heap.size, 0, none⟩ = some (.pointer (some ⟨R, 0, none⟩)) := by rw [cell_of_heap b3]; rfl
  have hto : OnlyS (fun b => b = R ∨ (w.heap.size ≤ b ∧ b < w.heap.size + 3)) w2 w3 := ho3.mono fun b _ hb => .inr (by omega)
  have hoT : OnlyS S w w3 := hoW.then ho3 fun b hb h => by omega
  have HR3 := Lib.hid hR3
  have HTo := Lib.hid hto
  have HoT := Lib.hid hoT
  have HSz := Lib.hid hsz
  clear hoW hr2 hkeep hsz2 ho3 b3 HC HB0 hR3 hto hoT hsz
  by_cases hc : c = 0
  · subst hc
    have HOk := Lib.hid (hok rfl)
    clear hok hbad
    go_wp2
    go_ret
    exact ⟨w2, HSz.out, HoT.out, HTo.out, .inl ⟨k', rfl, HR3.out, HOk.out⟩⟩
  · have i0 : (c != 0) = true := by simpa using hc
    have i1 : (c == 0) = false := by simpa using hc
    have HBad := Lib.hid (hbad hc)
    have HR4 := HR3.out
    obtain ⟨b', cap', hRh, -⟩ := HR4
    have r1 : w3.cell? ⟨R, 1, none⟩ = some (.int .i64 (k' : Int)) := by rw [cell_of_heap hRh]; rfl
    have r2 : w3.cell? ⟨R, 2, none⟩ = some (.int .i64 0) := by rw [cell_of_heap hRh]; rfl
    have f1 : w3.frozen? ⟨R, 1, none⟩ = false := free_of_heap hRh
    have f2 : w3.frozen? ⟨R, 2, none⟩ = false := free_of_heap hRh
    clear hok hbad hc hRh
    go_wp2
    go_region
    all_goals go_wp2
    all_goals go_ret
    all_goals exact ⟨w2, HSz.out, (HoT.out.setCell (p := ⟨R, 1, none⟩) (fun _ => hSR) _).setCell (p := ⟨R, 2, none⟩) (fun _ => hSR) _ |>.drew, (HTo.out.setCell (p := ⟨R, 1, none⟩) (fun _ => .inl rfl) _).setCell (p := ⟨R, 2, none⟩) (fun _ => .inl rfl) _ |>.drew, .inr ⟨c, rfl, stuck_step HR3.out hkl, HBad.out⟩⟩
end Go.Proofs.YthaggdkfaglgaaaDoor
