/- Joined: BinNum, BinRef, BinRaw, Quit. -/
import Derived.Test.YtgbhfolbkgibfaaRows
import Derived.Test.YtgbhfolbkgibfaaLAA
import Derived.Test.YtgbhfolbkgibfaaBinLen
import Derived.Test.YtgbhfolbkgibfaaLAB
import Derived.WalkKit
import Derived.WalkSpells
import Derived.WalkLawsBesides
import Derived.Lib.Hide
import Derived.Laws.AppendOwnNone
import Derived.Lib.BufferRead
import Derived.BigQuiet
import Derived.Deep.QuietTactic
/- bin.Num: the bytes of a number, in new memory. -/
namespace Go.Proofs.Ytgbhfolbkgibfaa
set_option maxRecDepth 20000
open Go.RowKit BinMath

/-- Len64, its answer under a name. -/
theorem len64_named (n b : Nat) (w : World) (hn : n < 18446744073709551616) (hb : b = Lib.bitLen n) :
    Calls Try.prog 90 #[.int .u64 n] w fun e w' => e = .returned (.int .i64 b) ∧ w = w' := by
  subst hb
  exact (len64_any n w (by omega) (by omega)).mono fun _ _ ⟨h1, h2⟩ => ⟨by simpa using h1, h2.symm⟩

theorem made_bytes (m : Nat) : (madeCells (Value.int IntKind.u8 0).cells ((m + 1) * 1)).toList = .int .u8 0 :: List.replicate m (.int .u8 0) := by
  have h : ∀ k, (madeCells (Value.int IntKind.u8 0).cells k).toList = List.replicate k (.int .u8 0) := by
    intro k
    refine List.ext_getElem (by simp [madeCells]) fun j h1 h2 => ?_
    simp [madeCells, Value.cells, Nat.mod_one]
  rw [Nat.mul_one, h, List.replicate_succ]

/-- The row of the loop: the head, the places that are still 0, the bytes that are there. -/
def rowAt (m n i : Nat) : List Value := bv (UInt8.ofNat m) :: (List.replicate i (.int .u8 0) ++ (be (m - i) n).map bv)

theorem rowAt_step (m n i : Nat) (hi : i + 1 ≤ m) : (rowAt m n (i + 1)).set (i + 1) (.int .u8 ((n / 256 ^ (m - (i + 1)) % 256 : Nat) : Int)) = rowAt m n i := by
  unfold rowAt
  rw [set_rep]
  congr 2
  rw [show m - i = m - (i + 1) + 1 by omega, be, List.map_cons, bv_of, Nat.mod_mod]

theorem div_step (n k : Nat) : n / 256 ^ k / 256 = n / 256 ^ (k + 1) := by rw [Nat.div_div_eq_div_mul, Nat.pow_succ]

set_option maxHeartbeats 1000000 in
theorem num_any (n : Nat) (w : World) (hn : n < 18446744073709551616) :
    Calls Try.prog 86 #[.int .u64 n] w fun e w' => ∃ v, e = .returned v ∧ Row w' w.heap.size v (numL n) ∧ Below w.heap.size w w' := by
  obtain ⟨i0, hi, hz0, hz1, hz2⟩ := info_parts info_byte
  obtain ⟨b, hb⟩ : ∃ b, b = Lib.bitLen n := ⟨_, rfl⟩
  obtain ⟨m, hm⟩ : ∃ m, m = nb n := ⟨_, rfl⟩
  have hb64 : b ≤ 64 := by rw [hb]; exact Lib.bitLen_le n 64 (by omega) hn
  have hk8 : m ≤ 8 := by rw [hm]; exact nb_le n hn
  have hq : ((b : Int) + 7) / 8 = (m : Int) := by rw [hm, hb]; unfold nb; omega
  have HB := Lib.hid hb
  have HM := Lib.hid hm
  clear hb hm
  go_enter Try.func86, Try.ntmps86
  go_wp2_with (first | (go_at_call 90; refine (len64_named n b _ hn HB.out).mono ?_; rintro e w' ⟨rfl, rfl⟩) | (at_make; refine wpList_make_full _ rfl _ _ 34 rfl w.heap.size 5 i0 (.int .u8 0) 1 Try.underlying34 hi hz0 hz1 _ _ _ _ (m + 1) rfl rfl (by omega) (by omega) (by rw [hz2]; omega) (by unfold maxLen; omega) (Nat.le_refl _) ?_; intro w1 hown hgrow; (have hf0 := hown.frozenAt 0); (have hc0 := hown.cellAt 0 (by omega)); rw [made_bytes] at hown hc0; (have HO := Lib.hid hown); (have HG := Lib.hid hgrow); clear hown hgrow))
  clear hq
  go_loopw [0, 5] (fun s0 s5 wr => ∃ i : Nat, i ≤ m ∧ s5 = .int .i64 i ∧ s0 = .int .u64 ((n / 256 ^ (m - i) : Nat) : Int) ∧ wr.ownsRow w.heap.size 5 1 (.slice (some ⟨w.heap.size, 0, none⟩) (m + 1) (m + 1)) (m + 1) (rowAt m n i) ∧ Below w.heap.size w wr) (fun _ s5 _ => (intOf s5).toNat)
  case atStart =>
    refine ⟨m, Nat.le_refl _, rfl, by simp, ?_, ?_⟩
    · have h := (HO.out.stored 0 (.int .u8 (m : Int))).1
      unfold rowAt
      rw [bv_of, Nat.mod_eq_of_lt (by omega), Nat.sub_self]
      simpa [be] using h
    · exact ((Below.refl _ _).grown HG.out (Nat.le_refl _) (by simp)).setCell (by simp) _
  case round =>
    obtain ⟨i, hi', rfl, rfl, hown, hbel⟩ := hrel
    obtain ⟨q, hq⟩ : ∃ q, q = n / 256 ^ (m - i) := ⟨_, rfl⟩
    have HQ := Lib.hid hq
    rw [← hq]
    have HO2 := Lib.hid hown
    have HBe := Lib.hid hbel
    clear hf0 hc0 hq
    by_cases h0 : i = 0
    · subst h0
      clear hown hbel
      go_wp2
      go_ret
      refine ⟨_, rfl, ?_, HBe.out⟩
      have h := HO2.out
      unfold rowAt at h
      unfold Row
      rw [numL_length, ← HM.out]
      have e : numL n = UInt8.ofNat m :: be m n := by rw [numL, ← HM.out]
      rw [e]
      simpa using h
    · obtain ⟨j, rfl⟩ : ∃ j, i = j + 1 := ⟨i - 1, by omega⟩
      have hcj : ∃ u, wr.cell? ⟨w.heap.size, j + 1, none⟩ = some u := by
        have hl := hown.1
        rw [hown.cellAt (j + 1) (by omega), List.getElem?_eq_getElem (by omega)]
        exact ⟨_, rfl⟩
      obtain ⟨u, hcj⟩ := hcj
      have hfj := hown.frozenAt (j + 1)
      clear hown hbel h0
      go_wp2
      go_roundw
      case rel =>
        refine ⟨j, by omega, rfl, ?_, ?_, (HBe.out).setCell (by simp) _⟩
        · rw [show m - j = m - (j + 1) + 1 by omega, ← div_step, ← HQ.out]; simp
        · have h := (HO2.out.stored (j + 1) (.int .u8 ((q % 256 : Nat) : Int))).1
          rw [HQ.out, rowAt_step m n j hi', ← HQ.out] at h
          simpa using h
      case measure => simp [intOf]
end Go.Proofs.Ytgbhfolbkgibfaa

/- The reference's numbers and texts: the same bytes as the code's. -/
namespace Go.Proofs.Ytgbhfolbkgibfaa
set_option maxRecDepth 20000
open Go.RowKit BinMath

end Go.Proofs.Ytgbhfolbkgibfaa

/- bin.Raw and the reference's: the bytes of a text, in new memory. -/
namespace Go.Proofs.Ytgbhfolbkgibfaa
set_option maxRecDepth 20000
open Go.RowKit BinMath

def rawL (l : List UInt8) : List UInt8 := numL l.length ++ l

set_option maxHeartbeats 1000000 in
theorem raw_any (v : Value) (l : List UInt8) (w : World) (hv : Bys w v l) (hl : l.length ≤ 140737488351232) :
    Calls Try.prog 87 #[v] w fun e w' => ∃ v', e = .returned v' ∧ Row w' w.heap.size v' (rawL l) ∧ Below w.heap.size w w' := by
  obtain ⟨i0, hi, hz0, hz1, hz2⟩ := info_parts info_byte
  obtain ⟨n, hn⟩ : ∃ n, n = l.length := ⟨_, rfl⟩
  have hnb := nb_le n (by omega)
  have hlen := numL_length n
  rcases hv with ⟨rfl, rfl⟩ | ⟨ad, cap, rfl, hc⟩
  · simp at hn
    subst hn
    go_enter Try.func87, Try.ntmps87
    go_wp2_with fail
    refine (num_any 0 _ (by omega)).mono ?_
    rintro e w1 ⟨u, rfl, hrow, hb1⟩
    have HR := Lib.hid hrow
    have HB := Lib.hid hb1
    clear hrow hb1
    go_wp2_with (at_builtin; refine wpList_append_own_none rfl _ _ 34 rfl w.heap.size 5 i0 1 Try.underlying34 hi _ _ _ rfl HR.out rfl ?_)
    go_ret
    refine ⟨_, rfl, ?_, HB.out⟩
    simpa [rawL] using HR.out
  · rw [← hn]
    have HN := Lib.hid hn
    have HC := Lib.hid hc
    have hl' : n ≤ 140737488351232 := by omega
    clear hn hc hl
    go_enter Try.func87, Try.ntmps87
    go_wp2_with fail
    refine (num_any n _ (by omega)).mono ?_
    rintro e w1 ⟨u, rfl, hrow, hb1⟩
    have hc1 : ∀ i (h : i < l.length), w1.cell? (ad.add i) = some (bv l[i]) := fun i h => by rw [hb1.cell (World.block_lt_of_cell? w _ (HC.out i h))]; exact HC.out i h
    have HR := Lib.hid hrow
    have HB := Lib.hid hb1
    have HC1 := Lib.hid hc1
    clear hrow hb1 hc1
    go_wp2_with (at_builtin; refine wpList_append_own _ rfl _ _ 34 rfl w.heap.size 5 i0 (.int .u8 0) 1 1 Try.underlying34 hi hz0 hz1 hz2 rfl (by decide) _ _ _ rfl HR.out ad n cap (l.map bv) rfl (by rw [List.length_map, HN.out, Nat.mul_one]) (cells_bys HC1.out) (one_bv l) (by unfold maxLen; omega) (by omega) HB.out.size ?_; intro v' w2 hown2 hgrow2 hnil2; (have HO2 := Lib.hid hown2); (have HG2 := Lib.hid hgrow2); clear hown2 hgrow2 hnil2)
    go_ret
    refine ⟨_, rfl, ?_, HB.out.grown HG2.out HB.out.size fun k hk => (HR.out.lt k hk).1⟩
    have h := HO2.out
    unfold Row rawL
    rw [← HN.out, List.length_append, List.map_append, ← HN.out]
    exact h

end Go.Proofs.Ytgbhfolbkgibfaa

/- Package quit: work that gives up, and is caught. -/
namespace Go.Proofs.Ytgbhfolbkgibfaa
set_option maxRecDepth 20000
open Go.RowKit

/-- What work that gives up panics with. -/
def gaveUp (c : Int) : List PanicEntry := [{ v := .iface 93 (.agg #[.int .i64 c]), recovered := false }]

/-- It ends, or gives up. -/
def Gives (c : Int) (e : Ending) : Prop := (c = 0 → e = .returned (.tuple #[])) ∧ (c ≠ 0 → e = .panicked (gaveUp c))

theorem quit_ok (w : World) : Calls Try.prog 44 #[.int .i64 0] w fun e w' => e = .returned (.tuple #[]) ∧ w' = w := by
  go_enter Try.func44, Try.ntmps44
  go_wp2
  exact ⟨rfl, .tuple #[], by simp [results, Try.results44, go_sem], rfl, rfl⟩

theorem quit_bad (c : Int) (hc : c ≠ 0) (w : World) : Calls Try.prog 44 #[.int .i64 c] w fun e w' => e = .panicked (gaveUp c) ∧ w' = w := by
  have q : (c == 0) = false := by simpa using hc
  have q' : (c != 0) = true := by simpa using hc
  clear hc
  go_enter Try.func44, Try.ntmps44
  go_wp2
  exact ⟨rfl, rfl, rfl⟩

theorem frame_quit (p x : Value) : #[p] ++ ((Array.replicate 16 undef).setIfInBounds 3 x).setIfInBounds 0 x = #[p, x, undef, undef, x, undef, undef, undef, undef, undef, undef, undef, undef, undef, undef, undef, undef] := by
  apply Array.ext'
  simp only [Array.toList_append, Array.toList_setIfInBounds, Array.toList_replicate]
  rfl

set_option maxHeartbeats 400000 in
/-- The deferred closure, nothing to recover. -/
theorem quit_idle (p : Value) (w : World) :
    CallsD Try.prog 47 #[p] .returning w fun e u' w' => e = .returned (.tuple #[]) ∧ u' = .returning ∧ w' = w := by
  refine callsD_of_wpS Try.func47 rfl fun c₀ cs hu => ?_
  apply wpS_seq
  apply wpS_region
  simp [wpOpsS, go_sem, recoverD, hu, Try.ntmps47, Exit.thenS]
  rw [frame_quit]
  refine wpS_of_wp ?_
  go_wp2
  cases c₀
  simp_all [bodyPostS, results, Try.results47]

theorem is_refused (v : Value) (w : World) : (Instr.typeAssert (.iface 93 v) 20 93 true).run Try.prog w = .ok (.tuple #[v, .bool true]) w := by kernel_rfl

/-- What the closure leaves: the variable E holds c. -/
def QCaught (E : Nat) (c : Int) (w w' : World) : Prop := w'.heap[E]? = some (.cells #[.int .i64 c] 39 (0, 0)) ∧ OnlyS (fun b => b = E) w w'

theorem quit_close {E : Nat} {c x : Int} {w : World} (hE : w.heap[E]? = some (.cells #[.int .i64 x] 39 (0, 0))) (o : Obj) : QCaught E c w ((w.setCell ⟨E, 0, none⟩ (.int .i64 c)).alloc o) := by
  have sE : E < w.heap.size := (Array.getElem?_eq_some_iff.1 hE).1
  refine ⟨?_, ?_⟩
  · rw [Below.heap_alloc _ _ _ (by simpa [World.setCell] using sE), heap_set_same hE]
    rfl
  · exact (((OnlyS.refl (fun b => b = E) w).setCell (p := ⟨E, 0, none⟩) (fun _ => rfl) _).alloc o : OnlyS (fun b => b = E) w _)

set_option maxHeartbeats 1000000 in
theorem quit_one (E : Nat) (c x : Int) (w : World) (hE : w.heap[E]? = some (.cells #[.int .i64 x] 39 (0, 0))) :
    CallsD Try.prog 47 #[.pointer (some ⟨E, 0, none⟩)] (.panicking (gaveUp c)) w fun e u' w' =>
      e = .returned (.tuple #[]) ∧ u' = .panicking [{ v := .iface 93 (.agg #[.int .i64 c]), recovered := true }] ∧ QCaught E c w w' := by
  have cE : w.cell? ⟨E, 0, none⟩ = some (.int .i64 x) := by rw [cell_of_heap hE]; rfl
  have fE : w.frozen? ⟨E, 0, none⟩ = false := free_of_heap hE
  have hta := is_refused
  have sE : E < w.heap.size := (Array.getElem?_eq_some_iff.1 hE).1
  have HE := Lib.hid hE
  have m6 : ¬ w.heap.size = E := by omega
  clear hE
  refine callsD_of_wpS Try.func47 rfl fun c₀ cs' hu => ?_
  apply wpS_seq
  apply wpS_region
  simp [wpOpsS, go_sem, recoverD, hu, gaveUp, Try.ntmps47, Exit.thenS]
  rw [frame_quit]
  refine wpS_of_wp ?_
  go_wp2
  simp [bodyPostS, results, Try.results47]
  exact quit_close HE.out _

theorem enters (F : FuncId) (hfn : ((Try.prog.funcs[F]?).map fun fn => (fn.name == "runtime.NumGoroutine", fn.body.isNone)) = some (false, false)) (args : Array Value) (w : World) : (callFunc F args).run Try.prog w = .ok (.enter F args) w := by
  obtain ⟨fn, hf, hp⟩ := Option.map_eq_some_iff.1 hfn
  simp only [Prod.mk.injEq] at hp
  have h1 : fn.name ≠ "runtime.NumGoroutine" := by simpa using hp.1
  have h2 : fn.body ≠ none := by intro hh; have := hp.2; rw [hh] at this; cases this
  simp [callFunc, hf, h1, h2]

/-- What the work does, as Caught asks it: it ends, or gives up with c. -/
def Worked (w : World) (Q : Int → World → Prop) (w1 : World) (e : Ending) (w2 : World) : Prop :=
  ∃ c, Gives c e ∧ Q c w2 ∧ w1.heap.size ≤ w2.heap.size ∧ w2.heap[w.heap.size]? = w1.heap[w.heap.size]?

/-- How Caught ends; w2: the world behind the work. -/
def Tried (w : World) (Q : Int → World → Prop) (e : Ending) (w' : World) : Prop :=
  ∃ c w2, Q c w2 ∧ e = .returned (.int .i64 c) ∧ w.heap.size + 1 ≤ w2.heap.size ∧ OnlyS (fun b => b = w.heap.size) w2 w'

set_option maxHeartbeats 1000000 in
theorem caught_any (F : FuncId) (fs cs : Array Value) (hF : ∀ (args : Array Value) (w : World), (callFunc F args).run Try.prog w = .ok (.enter F args) w)
    (w : World) (Q : Int → World → Prop)
    (hwork : ∀ w1, Below w.heap.size w w1 → w1.heap.size = w.heap.size + 1 → Calls Try.prog F (fs ++ cs) w1 (Worked w Q w1)) :
    Calls Try.prog 35 #[.func (.func F) fs cs] w (Tried w Q) := by
  have hmf : ∀ (fn : Fn) (first cap : Array Value) (w : World), (Instr.makeFunc fn first cap).run Try.prog w = .ok (.func fn first cap) w := fun _ _ _ _ => rfl
  have HWork := Lib.hid hwork
  clear hwork
  go_enter_defers Try.func35, Try.ntmps35
  go_wp2_with fail
  obtain ⟨w1, hw1⟩ : ∃ w1, w1 = w.alloc (.cells #[.int .i64 0] 39) := ⟨_, rfl⟩
  rw [← hw1]
  have hb1 : Below w.heap.size w w1 := by rw [hw1]; exact (Below.refl _ w).alloc (Nat.le_refl _) _
  have hs1 : w1.heap.size = w.heap.size + 1 := by rw [hw1]; simp
  have e0 : w1.heap[w.heap.size]? = some (.cells #[.int .i64 0] 39 (0, 0)) := by rw [hw1]; exact heap_alloc_new w _
  clear hw1
  refine (HWork.out w1 hb1 hs1).mono ?_
  rintro e w2 ⟨c, hm, hq, hs2, hfar⟩
  have e2 := hfar.trans e0
  have HQ := Lib.hid hq
  have hsz : w.heap.size + 1 ≤ w2.heap.size := by omega
  have HSz := Lib.hid hsz
  have HE := Lib.hid e2
  clear e0 hfar hb1 hs1 hs2 hq hsz HWork
  by_cases hc : c = 0
  · obtain rfl := hm.1 hc
    subst hc
    have ce : w2.cell? ⟨w.heap.size, 0, none⟩ = some (.int .i64 0) := by rw [cell_of_heap e2]; rfl
    have fe : w2.frozen? ⟨w.heap.size, 0, none⟩ = false := free_of_heap e2
    clear e2 hm
    go_wp2
    refine leaves_cons (f := 47) (args := #[.pointer (some ⟨w.heap.size, 0, none⟩)]) (by simp) (by simp [go_sem]) ?_
    refine (quit_idle _ _).mono ?_
    rintro e u' w3 ⟨rfl, rfl, rfl⟩
    have cE : (w2.setCell ⟨w.heap.size, 0, none⟩ (.int .i64 0)).cell? ⟨w.heap.size, 0, none⟩ = some (.int .i64 0) := by rw [cell_of_heap (heap_set_same HE.out _)]; rfl
    have fin : Tried w Q (.returned (.int .i64 0)) (w2.setCell ⟨w.heap.size, 0, none⟩ (.int .i64 0)) :=
      ⟨0, w2, HQ.out, rfl, HSz.out, (OnlyS.refl (fun b => b = w.heap.size) w2).setCell (p := ⟨w.heap.size, 0, none⟩) (fun _ => rfl) _⟩
    clear ce fe
    simp [Leaves, settle, results, Try.results35, go_sem, cE, fin]
  · obtain rfl := hm.2 hc
    have HC := Lib.hid hc
    clear e2 hm
    refine leaves_cons (f := 47) (args := #[.pointer (some ⟨w.heap.size, 0, none⟩)]) (by simp) (by simp [go_sem]) ?_
    refine (quit_one w.heap.size c 0 w2 HE.out).mono ?_
    rintro e u' w3 ⟨rfl, rfl, h1, h2⟩
    have cE : w3.cell? ⟨w.heap.size, 0, none⟩ = some (.int .i64 c) := by rw [cell_of_heap h1]; rfl
    have fin : Tried w Q (.returned (.int .i64 c)) w3 := ⟨c, w2, HQ.out, rfl, HSz.out, h2⟩
    simp [Leaves, settle, results, Try.results35, go_sem, cE, fin]
end Go.Proofs.Ytgbhfolbkgibfaa

