/- slices.Grow of the nil slice, and slices.Concat. -/
import Derived.Test.YtboongdoggggoaaCmdKit
import Derived.Lib.AppendZerosOnto
import Derived.Great.BuildSlice
namespace Go.Proofs.Ytboongdoggggoaa
set_option maxRecDepth 20000
open Go.RowKit BinMath CmdMath

/-- append in a walk, of a make. -/
theorem wpList_append_by2 {P : Program} {w : World} {ops : Array Oper} {rest : List Oper} {o : Oper} {a : Act} {Q : Exit → Act → World → Prop} (hgd : o.guard = none) (s x : Operand) (t t2 : TypeId)
    (ho : o.op = .call { callee := .builtin .append, args := #[s, x], argTypes := #[t, t2] }) (v y : Value) (hs : a.eval s = v) (hx : a.eval x = y) (R : Value → World → Prop)
    (hr : ∃ v' w', (Builtin.append_ #[t, t2] o.type #[v, y]).run P w = .ok v' w' ∧ R v' w')
    (h : ∀ v' w', R v' w' → wpList P ops Q rest (a.put o.dst v') w') : wpList P ops Q (o :: rest) a w := by
  obtain ⟨v', w', hrun, hR⟩ := hr
  refine wpList_plain hgd fun K hK => ?_
  unfold Oper.wp
  simp [execOp, ho, resolve, invoke, builtin, hs, hx, hrun, Result.andThen]
  exact hK _ _ (h v' w' hR)

/-- append([]byte(nil), make([]byte, k)...). -/
theorem append_none_zeros (w : World) (k : Nat) (h0 : 0 < k) (hk : k ≤ 1099511627776) :
    ∃ v' w', (Builtin.append_ #[22, 3] 22 #[.slice none 0 0, .int .i64 (k : Int)]).run Try.prog w = .ok v' w' ∧ ∃ g cap cur, v' = .slice (some ⟨g, 0, none⟩) k cap ∧ w.heap.size ≤ g ∧ w'.heap[g]? = some (.cells cur 5 (0, 0)) ∧ cap ≤ maxLen ∧ k ≤ cap ∧ cur.size = cap ∧ Below w.heap.size w w' := by
  obtain ⟨i0, hi, hz0, hz1, hz2⟩ := info_parts info_byte
  have hr := Lib.run_append_nil_zeros (P := Try.prog) w 22 3 22 5 i0 (.int .u8 0) .i64 .i64 Try.underlying22 Try.underlying3 hi hz0 k (by omega) (by omega) (by omega) (by rw [hz2]; omega)
  have hge := grownCap_ge w k 0 5
  have hle := grownCap_le_maxLen w k 0 5 (by unfold maxLen; omega)
  refine ⟨_, _, hr, w.heap.size, _, _, rfl, Nat.le_refl _, heap_alloc_new w.drew _, hle, hge, ?_, (Below.refl _ _).drew.alloc (Nat.le_refl _) _⟩
  simp [size_zeroCells, Value.cells]
  omega

set_option maxHeartbeats 1000000 in
theorem grow_any (n : Nat) (w : World) (hn : n ≤ 1099511627776) :
    Calls Try.prog 120 #[.slice none 0 0, .int .i64 (n : Int)] w fun e w' => ∃ v', e = .returned v' ∧ Row w' w.heap.size v' [] ∧ Below w.heap.size w w' := by
  by_cases h0 : n = 0
  · subst h0
    go_enter Try.func120, Try.ntmps120
    go_wp2
    go_ret
    exact ⟨_, rfl, World.ownsRow_nil _ _ _ _, Below.refl _ _⟩
  · have A1 := Lib.hid (append_none_zeros w n (by omega) hn)
    have h1 : ¬ ((n : Int) < 0) := by omega
    have h2 : (0 : Int) < (n : Int) := by omega
    clear h0
    go_enter Try.func120, Try.ntmps120
    go_wp2_with (at_builtin; refine wpList_append_by2 rfl _ _ 22 3 rfl _ _ rfl rfl _ A1.out ?_; rintro x w2 ⟨g, cap, cur, rfl, hg1, hg2, hg3, hg4, hg5, hg6⟩; (have H2 := Lib.hid hg2); (have H5 := Lib.hid hg5); (have H6 := Lib.hid hg6); clear hg2 hg5 hg6)
    go_ret
    refine ⟨_, rfl, ⟨by simp, .inr ⟨g, cap, cur, rfl, hg1, H2.out, Nat.zero_le _, hg3, by simpa using H5.out, by simp⟩⟩, H6.out⟩

/-- A list of texts in cells of a row. -/
def Parts (w : World) (g : Nat) (ls : List (List UInt8)) : Prop := ∀ i (h : i < ls.length), ∃ v, w.cell? ⟨g, i, none⟩ = some v ∧ Bys w v ls[i]

theorem Parts.below {w w' : World} {g : Nat} {ls : List (List UInt8)} (h : Parts w g ls) {B : Nat} (hB : w.heap.size ≤ B) (hb : Below B w w') : Parts w' g ls := fun i hi => by
  obtain ⟨v, hc, hv⟩ := h i hi
  exact ⟨v, by rw [hb.cell (p := ⟨g, i, none⟩) (Nat.lt_of_lt_of_le (World.block_lt_of_cell? w _ hc) hB)]; exact hc, hv.below hB hb⟩

/-- How many bytes the first i have. -/
def lenTo (ls : List (List UInt8)) (i : Nat) : Nat := (ls.take i).flatten.length

theorem take_step (ls : List (List UInt8)) (i : Nat) (hi : i < ls.length) : (ls.take (i + 1)).flatten = (ls.take i).flatten ++ ls[i] := by
  rw [List.take_add_one, List.getElem?_eq_getElem hi]
  simp only [Option.toList_some, List.flatten_append, List.flatten_cons, List.flatten_nil, List.append_nil]

theorem lenTo_step (ls : List (List UInt8)) (i : Nat) (hi : i < ls.length) : lenTo ls (i + 1) = lenTo ls i + ls[i].length := by
  unfold lenTo
  rw [take_step ls i hi, List.length_append]

theorem lenTo_le (ls : List (List UInt8)) (i : Nat) : lenTo ls i ≤ ls.flatten.length := by
  unfold lenTo
  have h := congrArg List.flatten (List.take_append_drop i ls)
  rw [List.flatten_append] at h
  rw [← h, List.length_append]
  omega

set_option maxHeartbeats 2000000 in
theorem concat_any (g n : Nat) (ls : List (List UInt8)) (w : World) (h : Parts w g ls) (hn : n = ls.length) (hn4 : n ≤ 1099511627776) (hl : ls.flatten.length ≤ 1099511627776) :
    Calls Try.prog 91 #[.slice (some ⟨g, 0, none⟩) n n] w fun e w' => ∃ v', e = .returned v' ∧ Row w' w.heap.size v' ls.flatten ∧ Below w.heap.size w w' := by
  have HN := Lib.hid hn
  have HP := Lib.hid h
  obtain ⟨T, hT⟩ : ∃ T, T = ls.flatten.length := ⟨_, rfl⟩
  have hle := fun i => lenTo_le ls i
  rw [← hT] at hl hle
  have HL := Lib.hid hle
  have HT := Lib.hid hT
  have hz : lenTo ls 0 = 0 := by simp [lenTo]
  have HZ := Lib.hid hz
  clear hn h hle hT hz
  go_enter Try.func91, Try.ntmps91
  go_wp2
  go_loop [3, 11] (fun s3 s11 => ∃ i s : Nat, i ≤ n ∧ s11 = .int .i64 (i : Int) ∧ s3 = .int .i64 (s : Int) ∧ s = lenTo ls i) (fun _ s11 => n - (intOf s11).toNat)
  case atStart => exact ⟨0, 0, by omega, rfl, rfl, HZ.out.symm⟩
  case round =>
    obtain ⟨i, s, hi, rfl, rfl, hs⟩ := hrel
    have hsl : s ≤ T := by rw [hs]; exact HL.out i
    have HS := Lib.hid hs
    clear hs
    by_cases hlt : i < n
    · have hil : i < ls.length := by have := HN.out; omega
      obtain ⟨v, hc, hv⟩ := HP.out i hil
      obtain ⟨a, cap, rfl⟩ := hv.shape
      have hst := lenTo_step ls i hil
      have hlu := HL.out (i + 1)
      obtain ⟨m, hm⟩ : ∃ m, m = ls[i].length := ⟨_, rfl⟩
      rw [← hm] at hc hst
      rw [← HS.out] at hst
      rw [hst] at hlu
      have HST := Lib.hid hst
      clear hst hv hm hil
      go_wp2
      go_round
      case rel => exact ⟨i + 1, s + m, by omega, by go_num, by go_num, HST.out.symm⟩
      case measure => simp [intOf]; omega
    · obtain rfl : i = n := by omega
      have HG := Lib.hid (grow_any s w (by omega))
      go_wp2_with fail
      refine HG.out.mono ?_
      rintro e w1 ⟨v1, rfl, hr1, hb1⟩
      have HR1 := Lib.hid hr1
      have HB1 := Lib.hid hb1
      clear hr1 hb1 HG hlt
      go_wp2
      go_loopw [6, 27] (fun s6 s27 wr => ∃ j : Nat, j ≤ i ∧ s27 = .int .i64 (j : Int) ∧ Row wr w.heap.size s6 (ls.take j).flatten ∧ Below w.heap.size w wr) (fun _ s27 _ => i - (intOf s27).toNat)
      case atStart => exact ⟨0, by omega, rfl, by simpa using HR1.out, HB1.out⟩
      case round =>
        obtain ⟨j, hj, rfl, hrow, hbw⟩ := hrel
        by_cases hlj : j < i
        · have hjl : j < ls.length := by have := HN.out; omega
          obtain ⟨v, hc, hv⟩ := HP.out j hjl
          have hlen := HL.out (j + 1)
          have hst := take_step ls j hjl
          unfold lenTo at hlen
          rw [hst, List.length_append] at hlen
          have hc1 : wr.cell? ⟨g, j, none⟩ = some v := by rw [hbw.cell (p := ⟨g, j, none⟩) (World.block_lt_of_cell? w _ hc)]; exact hc
          obtain ⟨x0, hx0⟩ : ∃ x0, x0 = ls[j] := ⟨_, rfl⟩
          rw [← hx0] at hv hlen hst
          have A2 := append_bys hbw.size hrow (hv.below (Nat.le_refl _) hbw) (by omega)
          have H2 := Lib.hid A2
          have HST := Lib.hid hst
          have HR := Lib.hid hrow
          have HB := Lib.hid hbw
          clear hc hv hlen hst A2 hrow hbw hx0 hjl
          go_wp2_with (at_builtin; refine wpList_append_by rfl _ _ 22 rfl _ _ rfl rfl _ H2.out ?_; rintro x w2 ⟨hr2, hb2⟩; (have HR2 := Lib.hid hr2); (have HB2 := Lib.hid hb2); clear hr2 hb2)
          go_round
          case rel => exact ⟨j + 1, by omega, by go_num, by rw [HST.out]; exact HR2.out, HB.out.grown HB2.out HB.out.size fun k hk => (World.ownsRow.lt HR.out k hk).1⟩
          case measure => simp [intOf]; omega
        · have e : ls.take j = ls := List.take_of_length_le (by have := HN.out; omega)
          rw [e] at hrow
          have HR := Lib.hid hrow
          have HB := Lib.hid hbw
          clear hrow hbw
          go_wp2
          go_ret
          exact ⟨_, rfl, HR.out, HB.out⟩

end Go.Proofs.Ytboongdoggggoaa
