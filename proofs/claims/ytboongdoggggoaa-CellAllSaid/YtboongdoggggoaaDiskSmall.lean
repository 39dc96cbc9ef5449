/- bytes.Clone, isName, noFiles. -/
import Derived.Test.YtboongdoggggoaaDiskAll
import Derived.Lib.SliceRun
namespace Go.Proofs.Ytboongdoggggoaa
set_option maxRecDepth 20000
open Go.RowKit Go.Maps DiskMath

set_option maxHeartbeats 400000 in
theorem clone_any (a : Option Addr) (n c : Nat) (l : List UInt8) (w : World) (h : Bys w (.slice a n c) l) (hl : l.length ≤ 140737488355328) :
    Calls Try.prog 105 #[.slice a n c] w fun e w' => ∃ v', e = .returned v' ∧ Row w' w.heap.size v' l ∧ Below w.heap.size w w' := by
  have HX := Lib.hid h
  have qT : ∀ (w : World) (a : Option Addr) (n c n' c' : Nat), (binOp .eql 22 (.slice a n c) (.slice none n' c')).run Try.prog w = .ok (.bool a.isNone) w := fun w a n c n' c' => Lib.run_eql_slice_nil w _ _ a n c n' c' Try.underlying22
  rcases h with ⟨h1, rfl⟩ | ⟨ad, cap, h1, hc⟩
  · simp at h1
    obtain ⟨rfl, rfl, rfl⟩ := h1
    go_enter Try.func105, Try.ntmps105
    go_wp2
    go_ret
    exact ⟨_, rfl, World.ownsRow_nil _ _ _ _, Below.refl _ _⟩
  · simp at h1
    obtain ⟨rfl, rfl, rfl⟩ := h1
    clear hc
    have A1 := Lib.hid (append_lit (B := w.heap.size) (Nat.le_refl _) (heap_alloc_new w (.cells #[] 5)) (HX.out.below (Nat.le_refl _) ((Below.refl _ _).alloc (Nat.le_refl _) (.cells #[] 5))) hl)
    obtain ⟨m, hm⟩ : ∃ m, m = l.length := ⟨_, rfl⟩
    rw [← hm] at A1 ⊢
    clear hm
    go_enter Try.func105, Try.ntmps105
    go_wp2_with (at_builtin; refine wpList_append_by rfl _ _ 22 rfl _ _ rfl rfl _ A1.out ?_; rintro x w2 ⟨hr2, hb2⟩; (have HR2 := Lib.hid hr2); (have HB2 := Lib.hid hb2); clear hr2 hb2)
    go_ret
    exact ⟨_, rfl, HR2.out, ((Below.refl _ _).alloc (Nat.le_refl _) (.cells #[] 5)).trans (HB2.out.mono (by simp))⟩

theorem keep_new (w : World) : Keep (w.alloc (.map #[] 0)) w.heap.size [] :=
  ⟨World.ownsMap_made w Try.prog 9 tokR, (fun p hp => by cases hp), List.Pairwise.nil⟩

theorem noFiles_any (w : World) : Calls Try.prog 82 #[] w fun e w' => ∃ m, e = .returned (.agg #[.map (some m), .int .i64 0]) ∧ Keep w' m [] ∧ Below w.heap.size w w' ∧ w.heap.size ≤ m := by
  have hmk : ∀ W, (Instr.makeMap 118 none).run Try.prog W = .ok (.map (some W.heap.size)) (W.alloc (.map #[] 0)) := fun W => rfl
  go_enter Try.func82, Try.ntmps82
  go_wp2
  refine bodyPost_ret (v := .agg #[.map (some (w.heap.size + 1)), .int .i64 0]) (results_cell_row rfl _ _ w.heap.size 120 #[.map (some (w.heap.size + 1)), .int .i64 0] (0, 0) _ rfl ?_ Try.underlying120 rfl (by kernel_rfl)) rfl ?_
  · exact Blk.alloc (Blk.new w _ _) _
  · refine ⟨w.heap.size + 1, rfl, ?_, ((Below.refl _ _).alloc (Nat.le_refl _) _).alloc (by simp) _, by omega⟩
    have h := keep_new (w.alloc (.cells #[.map (some (w.heap.size + 1)), .int .i64 0] 120))
    simpa using h

set_option maxHeartbeats 1000000 in
theorem isName_any (n : Nm) (w : World) (hn : n.length ≤ 9223372036854775807) : Calls Try.prog 137 #[nm n] w fun e w' => e = .returned (.bool (named n)) ∧ w = w' := by
  obtain ⟨S, hS⟩ : ∃ S : ByteArray, nm n = .string S := ⟨_, rfl⟩
  have hsz : S.size = n.length := by
    unfold nm at hS
    cases hS
    show n.toArray.size = _
    simp
  have hget : ∀ (i : Nat) (h : i < S.size) (h' : i < n.length), (S[i]'h).toNat = (n[i]'h').toNat := fun i h h' => by
    unfold nm at hS
    cases hS
    rfl
  rw [hS]
  by_cases h1 : n.length < 1
  · have hr : named n = false := by unfold named; simp; omega
    have b1 : decide ((n.length : Int) < 1) = true := by simp; omega
    rw [hr]
    go_enter Try.func137, Try.ntmps137
    go_wp2
    all_goals first | (go_ret; exact ⟨rfl, rfl⟩) | skip
  by_cases h2 : 16 < n.length
  · have hr : named n = false := by unfold named; simp; omega
    have b1 : decide ((n.length : Int) < 1) = false := by simp; omega
    have b2 : decide (16 < (n.length : Int)) = true := by simp; omega
    rw [hr]
    go_enter Try.func137, Try.ntmps137
    go_wp2
    all_goals first | (go_ret; exact ⟨rfl, rfl⟩) | skip
  have b1 : decide ((n.length : Int) < 1) = false := by simp; omega
  have b2 : decide (16 < (n.length : Int)) = false := by simp; omega
  obtain ⟨L, hL⟩ : ∃ L, L = n.length := ⟨_, rfl⟩
  rw [← hL] at b1 b2 hsz h1 h2
  have HL := Lib.hid hL
  clear hL hn
  go_enter Try.func137, Try.ntmps137
  go_wp2
  go_loop [15] (fun s15 => ∃ i : Nat, i ≤ L ∧ s15 = .int .i64 i ∧ (n.take i).all okC = true) (fun s15 => L - (intOf s15).toNat)
  case atStart => exact ⟨0, Nat.zero_le _, rfl, rfl⟩
  case round =>
    obtain ⟨i, hi, rfl, hall⟩ := hrel
    have HAll := Lib.hid hall
    clear hall b1 b2
    by_cases hlt : i < L
    · have i0 : (0 : Int) ≤ (i : Int) := Int.natCast_nonneg _
      have i1 : (i : Int) < (L : Int) := by omega
      have hin : i < n.length := by have := HL.out; omega
      have hbad : okC n[i] = false → named n = false := fun h => by
        unfold named
        rw [Bool.and_eq_false_iff]
        right
        rw [List.all_eq_false]
        exact ⟨n[i], List.getElem_mem _, by rw [h]; simp⟩
      have hgood : okC n[i] = true → (n.take (i + 1)).all okC = true := fun h => by
        rw [List.take_succ_eq_append_getElem hin, List.all_append, HAll.out]
        simp [h]
      have HBad := Lib.hid hbad
      have HGood := Lib.hid hgood
      have HG := Lib.hid (hget i (by omega) hin)
      clear hbad hgood
      go_wp2
      all_goals try
        (refine ⟨⟨i + 1, by omega, by go_num, HGood.out ?_⟩, by simp [intOf]; omega⟩
         have h := HG.out
         unfold okC
         simp only [Bool.or_eq_true, Bool.and_eq_true, Bool.not_eq_false', decide_eq_true_eq, beq_iff_eq] at *
         omega)
      all_goals
        refine bodyPost_ret (v := .bool false) (by simp [results, Try.results137, go_sem]) rfl ⟨?_, rfl⟩
        have h := HG.out
        rw [HBad.out (by unfold okC; simp only [Bool.not_eq_true', Bool.or_eq_false_iff, Bool.and_eq_false_iff, decide_eq_false_iff_not, beq_eq_false_iff_ne, ne_eq] at *; omega)]
    · obtain rfl : i = L := by omega
      have hr : named n = true := by
        have h := HAll.out
        rw [List.take_of_length_le (by have := HL.out; omega)] at h
        have := HL.out
        unfold named
        rw [h]
        simp
        omega
      have HR := Lib.hid hr
      clear hr hget
      go_wp2
      exact bodyPost_ret (v := .bool true) (by simp [results, Try.results137, go_sem]) rfl ⟨by rw [HR.out], rfl⟩
end Go.Proofs.Ytboongdoggggoaa
