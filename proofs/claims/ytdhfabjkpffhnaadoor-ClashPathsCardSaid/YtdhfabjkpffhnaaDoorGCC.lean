/- Joined: BysConcat, Hashed, LeafWrote, LeafNode, LeafRoot, LeafProgram. -/
import Derived.Test.YtdhfabjkpffhnaaDoorGCM
import Derived.Test.YtdhfabjkpffhnaaDoorArmsC
import Derived.Lib.AppendZerosOnto
import Derived.Great.BuildSlice
import Derived.Test.YtdhfabjkpffhnaaDoorGCS
import Derived.Test.YtdhfabjkpffhnaaDoorLeafAskC
import Derived.Test.YtdhfabjkpffhnaaDoorGCB
import Derived.Test.YtdhfabjkpffhnaaDoorLeafSpecC
/- slices.Grow of the nil slice, and slices.Concat, over bytes of any length. -/
namespace Go.Proofs.YtdhfabjkpffhnaaDoor
set_option maxRecDepth 20000
open Go.RowKit ShaMath LeafMath

theorem Bys.formZ {W : World} {v : Value} {l : List UInt8} (h : Bys W v l) : ∃ a c, v = .slice a l.length c := by
  rcases h with ⟨rfl, rfl⟩ | ⟨ad, cap, h, _⟩
  · exact ⟨none, 0, rfl⟩
  · exact ⟨_, _, h⟩

/-- append in a walk, of a make. -/
theorem wpList_append_byZ {P : Program} {w : World} {ops : Array Oper} {rest : List Oper} {o : Oper} {a : Act} {Q : Exit → Act → World → Prop} (hgd : o.guard = none) (s x : Operand) (t t2 : TypeId)
    (ho : o.op = .call { callee := .builtin .append, args := #[s, x], argTypes := #[t, t2] }) (v y : Value) (hs : a.eval s = v) (hx : a.eval x = y) (R : Value → World → Prop)
    (hr : ∃ v' w', (Builtin.append_ #[t, t2] o.type #[v, y]).run P w = .ok v' w' ∧ R v' w')
    (h : ∀ v' w', R v' w' → wpList P ops Q rest (a.put o.dst v') w') : wpList P ops Q (o :: rest) a w := by
  obtain ⟨v', w', hrun, hR⟩ := hr
  refine wpList_plain hgd fun K hK => ?_
  unfold Oper.wp
  simp [execOp, ho, resolve, invoke, builtin, hs, hx, hrun, Result.andThen]
  exact hK _ _ (h v' w' hR)

/-- append([]byte(nil), make([]byte, k)...). -/
theorem append_none_zeros (w : World) (k : Nat) (h0 : 0 < k) (hk : k ≤ 140737488355328) :
    ∃ v' w', (Builtin.append_ #[22, 3] 22 #[.slice none 0 0, .int .i64 (k : Int)]).run Tryd.prog w = .ok v' w' ∧ ∃ g cap cur, v' = .slice (some ⟨g, 0, none⟩) k cap ∧ w.heap.size ≤ g ∧ w'.heap[g]? = some (.cells cur 5 (0, 0)) ∧ cap ≤ maxLen ∧ k ≤ cap ∧ cur.size = cap ∧ Below w.heap.size w w' := by
  obtain ⟨i0, hi, hz0, hz1, hz2⟩ := info_parts info_byte
  have hr := Lib.run_append_nil_zeros (P := Tryd.prog) w 22 3 22 5 i0 (.int .u8 0) .i64 .i64 Tryd.underlying22 Tryd.underlying3 hi hz0 k (by omega) (by omega) (by omega) (by rw [hz2]; omega)
  have hge := grownCap_ge w k 0 5
  have hle := grownCap_le_maxLen w k 0 5 (by unfold maxLen; omega)
  refine ⟨_, _, hr, w.heap.size, _, _, rfl, Nat.le_refl _, heap_alloc_new w.drew _, hle, hge, ?_, (Below.refl _ _).drew.alloc (Nat.le_refl _) _⟩
  simp [size_zeroCells, Value.cells]
  omega

set_option maxHeartbeats 1000000 in
theorem grow_any (n : Nat) (w : World) (hn : n ≤ 140737488355328) :
    Calls Tryd.prog 97 #[.slice none 0 0, .int .i64 (n : Int)] w fun e w' => ∃ v', e = .returned v' ∧ Row w' w.heap.size v' [] ∧ Below w.heap.size w w' := by
  by_cases h0 : n = 0
  · subst h0
    go_enter Tryd.func97, Tryd.ntmps97
    go_wp2
    go_ret
    exact ⟨_, rfl, World.ownsRow_nil _ _ _ _, Below.refl _ _⟩
  · have A1 := Lib.hid (append_none_zeros w n (by omega) hn)
    have h1 : ¬ ((n : Int) < 0) := by omega
    have h2 : (0 : Int) < (n : Int) := by omega
    clear h0
    go_enter Tryd.func97, Tryd.ntmps97
    go_wp2_with (at_builtin; refine wpList_append_byZ rfl _ _ 22 3 rfl _ _ rfl rfl _ A1.out ?_; rintro x w2 ⟨g, cap, cur, rfl, hg1, hg2, hg3, hg4, hg5, hg6⟩; (have H2 := Lib.hid hg2); (have H5 := Lib.hid hg5); (have H6 := Lib.hid hg6); clear hg2 hg5 hg6)
    go_ret
    refine ⟨_, rfl, ⟨by simp, .inr ⟨g, cap, cur, rfl, hg1, H2.out, Nat.zero_le _, hg3, by simpa using H5.out, by simp⟩⟩, H6.out⟩

/-- A list of texts in cells of a row. -/
def Parts (w : World) (g : Nat) (ls : List (List UInt8)) : Prop := ∀ i (h : i < ls.length), ∃ v, w.cell? ⟨g, i, none⟩ = some v ∧ Bys w v ls[i]

theorem Parts.below {w w' : World} {g : Nat} {ls : List (List UInt8)} (h : Parts w g ls) {B : Nat} (hB : w.heap.size ≤ B) (hb : Below B w w') : Parts w' g ls := fun i hi => by
  obtain ⟨v, hc, hv⟩ := h i hi
  exact ⟨v, by rw [hb.cell (p := ⟨g, i, none⟩) (Nat.lt_of_lt_of_le (World.block_lt_of_cell? w _ hc) hB)]; exact hc, hv.below hB hb⟩

/-- How many bytes the first i have. -/
def lenTo (ls : List (List UInt8)) (i : Nat) : Nat := (ls.take i).flatten.length

theorem take_step (ls : List (List UInt8)) (i : Nat) (hi : i < ls.length) : (ls.take (i + 1)).flatten = (ls.take i).flatten ++ ls[i] := by
  rw [List.take_add_one, List.getElem?_eq_getElem hi]
  simp only [Option.toList_some, List.flatten_append, List.flatten_cons, List.flatten_nil, List.append_nil]

theorem lenTo_step (ls : List (List UInt8)) (i : Nat) (hi : i < ls.length) : lenTo ls (i + 1) = lenTo ls i + ls[i].length := by
  unfold lenTo
  rw [take_step ls i hi, List.length_append]

theorem lenTo_le (ls : List (List UInt8)) (i : Nat) : lenTo ls i ≤ ls.flatten.length := by
  unfold lenTo
  have h := congrArg List.flatten (List.take_append_drop i ls)
  rw [List.flatten_append] at h
  rw [← h, List.length_append]
  omega

set_option maxHeartbeats 2000000 in
theorem concat_any (g n : Nat) (ls : List (List UInt8)) (w : World) (h : Parts w g ls) (hn : n = ls.length) (hn4 : n ≤ 1099511627776) (hl : ls.flatten.length ≤ 140737488355328) :
    Calls Tryd.prog 77 #[.slice (some ⟨g, 0, none⟩) n n] w fun e w' => ∃ v', e = .returned v' ∧ Row w' w.heap.size v' ls.flatten ∧ Below w.heap.size w w' := by
  have HN := Lib.hid hn
  have HP := Lib.hid h
  obtain ⟨T, hT⟩ : ∃ T, T = ls.flatten.length := ⟨_, rfl⟩
  have hle := fun i => lenTo_le ls i
  rw [← hT] at hl hle
  have HL := Lib.hid hle
  have HT := Lib.hid hT
  have hz : lenTo ls 0 = 0 := by simp [lenTo]
  have HZ := Lib.hid hz
  clear hn h hle hT hz
  go_enter Tryd.func77, Tryd.ntmps77
  go_wp2
  go_loop [3, 11] (fun s3 s11 => ∃ i s : Nat, i ≤ n ∧ s11 = .int .i64 (i : Int) ∧ s3 = .int .i64 (s : Int) ∧ s = lenTo ls i) (fun _ s11 => n - (intOf s11).toNat)
  case atStart => exact ⟨0, 0, by omega, rfl, rfl, HZ.out.symm⟩
  case round =>
    obtain ⟨i, s, hi, rfl, rfl, hs⟩ := hrel
    have hsl : s ≤ T := by rw [hs]; exact HL.out i
    have HS := Lib.hid hs
    clear hs
    by_cases hlt : i < n
    · have hil : i < ls.length := by have := HN.out; omega
      obtain ⟨v, hc, hv⟩ := HP.out i hil
      obtain ⟨a, cap, rfl⟩ := hv.formZ
      have hst := lenTo_step ls i hil
      have hlu := HL.out (i + 1)
      obtain ⟨m, hm⟩ : ∃ m, m = ls[i].length := ⟨_, rfl⟩
      rw [← hm] at hc hst
      rw [← HS.out] at hst
      rw [hst] at hlu
      have HST := Lib.hid hst
      clear hst hv hm hil
      go_wp2
      go_round
      case rel => exact ⟨i + 1, s + m, by omega, by go_num, by go_num, HST.out.symm⟩
      case measure => simp [intOf]; omega
    · obtain rfl : i = n := by omega
      have HG := Lib.hid (grow_any s w (by omega))
      go_wp2_with fail
      refine HG.out.mono ?_
      rintro e w1 ⟨v1, rfl, hr1, hb1⟩
      have HR1 := Lib.hid hr1
      have HB1 := Lib.hid hb1
      clear hr1 hb1 HG hlt
      go_wp2
      go_loopw [6, 27] (fun s6 s27 wr => ∃ j : Nat, j ≤ i ∧ s27 = .int .i64 (j : Int) ∧ Row wr w.heap.size s6 (ls.take j).flatten ∧ Below w.heap.size w wr) (fun _ s27 _ => i - (intOf s27).toNat)
      case atStart => exact ⟨0, by omega, rfl, by simpa using HR1.out, HB1.out⟩
      case round =>
        obtain ⟨j, hj, rfl, hrow, hbw⟩ := hrel
        by_cases hlj : j < i
        · have hjl : j < ls.length := by have := HN.out; omega
          obtain ⟨v, hc, hv⟩ := HP.out j hjl
          have hlen := HL.out (j + 1)
          have hst := take_step ls j hjl
          unfold lenTo at hlen
          rw [hst, List.length_append] at hlen
          have hc1 : wr.cell? ⟨g, j, none⟩ = some v := by rw [hbw.cell (p := ⟨g, j, none⟩) (World.block_lt_of_cell? w _ hc)]; exact hc
          obtain ⟨x0, hx0⟩ : ∃ x0, x0 = ls[j] := ⟨_, rfl⟩
          rw [← hx0] at hv hlen hst
          have A2 := append_bys hbw.size hrow (hv.below (Nat.le_refl _) hbw) (by omega)
          have H2 := Lib.hid A2
          have HST := Lib.hid hst
          have HR := Lib.hid hrow
          have HB := Lib.hid hbw
          clear hc hv hlen hst A2 hrow hbw hx0 hjl
          go_wp2_with (at_builtin; refine wpList_append_by rfl _ _ 22 rfl _ _ rfl rfl _ H2.out ?_; rintro x w2 ⟨hr2, hb2⟩; (have HR2 := Lib.hid hr2); (have HB2 := Lib.hid hb2); clear hr2 hb2)
          go_round
          case rel => exact ⟨j + 1, by omega, by go_num, by rw [HST.out]; exact HR2.out, HB.out.grown HB2.out HB.out.size fun k hk => (World.ownsRow.lt HR.out k hk).1⟩
          case measure => simp [intOf]; omega
        · have e : ls.take j = ls := List.take_of_length_le (by have := HN.out; omega)
          rw [e] at hrow
          have HR := Lib.hid hrow
          have HB := Lib.hid hbw
          clear hrow hbw
          go_wp2
          go_ret
          exact ⟨_, rfl, HR.out, HB.out⟩

end Go.Proofs.YtdhfabjkpffhnaaDoor

/- What the program hashes for a leaf and for a node. -/
namespace Go.Proofs.YtdhfabjkpffhnaaDoor
set_option maxRecDepth 20000
open Go.RowKit ShaMath LeafMath Reg

theorem range_two8 : Array.range 2 = #[0, 1] := by decide
theorem range_three8 : Array.range 3 = #[0, 1, 2] := by decide

/-- Two texts in a row that is made. -/
theorem build_two8 (W : World) (l0 l1 : List UInt8) (v0 v1 : Value) (h0 : Bys W v0 l0) (h1 : Bys W v1 l1) :
    (Instr.buildSlice 48 2 #[(0, v0), (1, v1)]).run Tryd.prog W = .ok (.slice (some ⟨W.heap.size, 0, none⟩) 2 2) (W.alloc (.cells #[v0, v1] 22)) ∧ Parts (W.alloc (.cells #[v0, v1] 22)) W.heap.size [l0, l1] := by
  obtain ⟨a0, c0, rfl⟩ := h0.formZ
  obtain ⟨a1, c1, rfl⟩ := h1.formZ
  have hz : (zeroValue 22).run Tryd.prog W = .ok (.slice none 0 0) W := by kernel_rfl
  have hs : (Go.sizeOf 22).run Tryd.prog W = .ok 1 W := by kernel_rfl
  refine ⟨?_, fun i hi => ?_⟩
  · simp [Instr.buildSlice, run_underlying Tryd.underlying48, Result.andThen, hz, hs, Instr.fill, newRow, Value.cells, range_two8]
  · have hn : Blk (W.alloc (.cells #[.slice a0 l0.length c0, .slice a1 l1.length c1] 22)) W.heap.size 22 #[.slice a0 l0.length c0, .slice a1 l1.length c1] := Blk.new _ _ _
    have hb : Below W.heap.size W (W.alloc (.cells #[.slice a0 l0.length c0, .slice a1 l1.length c1] 22)) := (Below.refl _ _).alloc (Nat.le_refl _) _
    have hi2 : i < 2 := hi
    rcases i with _ | _ | i
    · exact ⟨_, by rw [hn.cell]; rfl, h0.below (Nat.le_refl _) hb⟩
    · exact ⟨_, by rw [hn.cell]; rfl, h1.below (Nat.le_refl _) hb⟩
    · omega

theorem wpList_build_two8 {w : World} {ops : Array Oper} {rest : List Oper} {o : Oper} {a : Act} {Q : Exit → Act → World → Prop} (hgd : o.guard = none) (s0 s1 : Operand) (ho : o.op = .buildSlice 48 2 #[(0, s0), (1, s1)]) (v0 v1 : Value) (h0 : a.eval s0 = v0) (h1 : a.eval s1 = v1)
    (l0 l1 : List UInt8) (b0 : Bys w v0 l0) (b1 : Bys w v1 l1)
    (h : ∀ W, Parts W w.heap.size [l0, l1] → Below w.heap.size w W → W.heap.size = w.heap.size + 1 → wpList Tryd.prog ops Q rest (a.put o.dst (.slice (some ⟨w.heap.size, 0, none⟩) 2 2)) W) : wpList Tryd.prog ops Q (o :: rest) a w := by
  obtain ⟨hr, hp⟩ := build_two8 w l0 l1 v0 v1 b0 b1
  refine wpList_plain hgd fun K hK => ?_
  unfold Oper.wp
  simp [execOp, ho, h0, h1, hr, Result.andThen]
  exact hK _ _ (h _ hp ((Below.refl _ _).alloc (Nat.le_refl _) _) (by simp))

set_option maxRecDepth 100000 in
theorem hashedLeaf_any (l : List UInt8) (v : Value) (w : World) (hv : Bys w v l) (hl : l.length ≤ 140737488355300) :
    Calls Tryd.prog 48 #[v] w fun e w' => ∃ u, e = .returned u ∧ Row w' w.heap.size u (0 :: l) ∧ Below w.heap.size w w' := by
  obtain ⟨a, c, rfl⟩ := hv.formZ
  obtain ⟨len, hlen⟩ : ∃ n, n = l.length := ⟨_, rfl⟩
  rw [← hlen] at hv ⊢
  have HB := Lib.hid (show ∀ W, Below w.heap.size w W → Bys W (.slice a len c) l from fun W hW => hv.below (Nat.le_refl _) hW)
  have HL := Lib.hid (show (0 :: l).length ≤ 140737488355328 by rw [List.length_cons]; omega)
  have HR0 := Lib.hid (row_one w w.heap.size 0 (Nat.le_refl _)).bys
  have HF := Lib.hid (show ([[0], l] : List (List UInt8)).flatten = 0 :: l by rw [List.flatten_cons, List.flatten_cons, List.flatten_nil, List.append_nil]; rfl)
  obtain ⟨ps, hps⟩ : ∃ ps : List (List UInt8), ps = [[0], l] := ⟨_, rfl⟩
  have hp2 : 2 = ps.length := by rw [hps]; rfl
  rw [← hps] at HF
  have HC := Lib.hid (fun (g : Nat) (W : World) (h : Parts W g ps) => concat_any g 2 ps W h hp2 (by omega) (by rw [HF.out]; exact HL.out))
  rw [HF.out] at HC
  have HPs := Lib.hid hps
  clear hv hl hlen hp2 hps
  go_enter Tryd.func48, Tryd.ntmps48
  go_wp2_with (refine wpList_build_two8 rfl (.tmp 3) (.tmp 4) rfl _ _ rfl rfl [0] l HR0.out (HB.out _ ((Below.refl _ _).alloc (Nat.le_refl _) _)) ?_; intro W1 hp1 hb1 hs1; (have HP1 := Lib.hid hp1); (have HB1 := Lib.hid hb1); (have HS1 := Lib.hid hs1); clear hp1 hb1 hs1)
  refine (HC.out _ _ (by rw [HPs.out]; have := HP1.out; rw [World.size_alloc] at this; exact this)).mono ?_
  rintro e W2 ⟨u, rfl, hr, hb2⟩
  have HR := Lib.hid hr
  have HB2 := Lib.hid hb2
  clear hr hb2
  go_wp2
  go_ret
  have hb := HB1.out
  have hw1 : Below w.heap.size w W1 := ((Below.refl _ _).alloc (Nat.le_refl _) _).trans (hb.mono (by simp))
  exact ⟨_, rfl, HR.out.lower hw1.size, hw1.trans (HB2.out.mono hw1.size)⟩

/-- A list of texts in a row that was just laid. -/
def partsZF (n : Nat) (ls : List (List UInt8)) : Fact := .sat (fun v W => ∃ g, v = .slice (some ⟨g, 0, none⟩) n n ∧ Parts W g ls) fun _ _ _ ⟨g, hv, hp⟩ hb => ⟨g, hv, hp.below (Nat.le_refl _) hb⟩

section
variable {ops : Array Oper} {tab : List (List Nat)} {fin : List Tmp} {G : World → Prop} {f : Tmp → Fact} {i : Nat} {o : Oper}
theorem ask_build_three8 (hG : ∀ W W', G W → Below W.heap.size W W' → G W') (hg : guardOk ops f o) (s0 s1 s2 : Operand) (l0 l1 l2 : List UInt8) (ls : List (List UInt8)) (hls : ls = [l0, l1, l2])
    (ho : o.op = .buildSlice 48 3 #[(0, s0), (1, s1), (2, s2)]) (h : ∀ x W, G W → Told ops f o x W → Bys W (evalBy x s0) l0 ∧ Bys W (evalBy x s1) l1 ∧ Bys W (evalBy x s2) l2)
    (hd : ∀ k, o.dst = some k → f k = partsZF 3 ls) : Asked Tryd.prog ops tab fin G f i o := by
  refine ask_grow hG hg fun x W hW hk => ?_
  obtain ⟨h0, h1, h2⟩ := h x W hW hk
  obtain ⟨a0, c0, e0⟩ := h0.formZ
  obtain ⟨a1, c1, e1⟩ := h1.formZ
  obtain ⟨a2, c2, e2⟩ := h2.formZ
  rw [e0] at h0
  rw [e1] at h1
  rw [e2] at h2
  have hz : (zeroValue 22).run Tryd.prog W = .ok (.slice none 0 0) W := by kernel_rfl
  have hs : (Go.sizeOf 22).run Tryd.prog W = .ok 1 W := by kernel_rfl
  have hr : (Instr.buildSlice 48 3 #[(0, .slice a0 l0.length c0), (1, .slice a1 l1.length c1), (2, .slice a2 l2.length c2)]).run Tryd.prog W = .ok (.slice (some ⟨W.heap.size, 0, none⟩) 3 3) (W.alloc (.cells #[.slice a0 l0.length c0, .slice a1 l1.length c1, .slice a2 l2.length c2] 22)) := by
    simp [Instr.buildSlice, run_underlying Tryd.underlying48, Result.andThen, hz, hs, Instr.fill, newRow, Value.cells, range_three8]
  have hb : Below W.heap.size W (W.alloc (.cells #[.slice a0 l0.length c0, .slice a1 l1.length c1, .slice a2 l2.length c2] 22)) := (Below.refl _ _).alloc (Nat.le_refl _) _
  have hn : Blk (W.alloc (.cells #[.slice a0 l0.length c0, .slice a1 l1.length c1, .slice a2 l2.length c2] 22)) W.heap.size 22 #[.slice a0 l0.length c0, .slice a1 l1.length c1, .slice a2 l2.length c2] := Blk.new _ _ _
  refine gives_value (v := .slice (some ⟨W.heap.size, 0, none⟩) 3 3) (w' := W.alloc (.cells #[.slice a0 l0.length c0, .slice a1 l1.length c1, .slice a2 l2.length c2] 22)) ?_ ⟨hb, fun k hk => by
    rw [hd k hk, hls]
    refine ⟨_, rfl, fun i hi => ?_⟩
    have hi3 : i < 3 := hi
    rcases i with _ | _ | _ | i
    · exact ⟨_, by rw [hn.cell]; rfl, h0.below (Nat.le_refl _) hb⟩
    · exact ⟨_, by rw [hn.cell]; rfl, h1.below (Nat.le_refl _) hb⟩
    · exact ⟨_, by rw [hn.cell]; rfl, h2.below (Nat.le_refl _) hb⟩
    · omega⟩
  simp [execOp, ho, hr, e0, e1, e2, Result.andThen]
end

set_option maxHeartbeats 1000000 in
set_option maxRecDepth 100000 in
theorem hashedNode_any (l r : List UInt8) (w : World) (hl : l.length = 32) (hr : r.length = 32) :
    Calls Tryd.prog 50 #[.agg (bs l), .agg (bs r)] w fun e w' => ∃ u, e = .returned u ∧ Row w' w.heap.size u (1 :: (l ++ r)) ∧ Below w.heap.size w w' := by
  have h1 := Two32.new w l r
  obtain ⟨ps, hps⟩ : ∃ ps : List (List UInt8), ps = [[1], l, r] := ⟨_, rfl⟩
  have hp3 : 3 = ps.length := by rw [hps]; rfl
  have hpf : ps.flatten = 1 :: (l ++ r) := by rw [hps, List.flatten_cons, List.flatten_cons, List.flatten_cons, List.flatten_nil, List.append_nil]; rfl
  obtain ⟨t, ht⟩ : ∃ t, t = 1 :: (l ++ r) := ⟨_, rfl⟩
  have htl : t.length = 65 := by rw [ht, List.length_cons, List.length_append, hl, hr]
  rw [← ht] at hpf ⊢
  have HC := Lib.hid (fun (g : Nat) (W : World) (h : Parts W g ps) => concat_any g 3 ps W h hp3 (by omega) (by rw [hpf]; omega))
  rw [hpf] at HC
  have HPs := Lib.hid hps
  have HL := Lib.hid hl
  have HR := Lib.hid hr
  obtain ⟨cl, hcl⟩ : ∃ cl, cl = bs l := ⟨_, rfl⟩
  obtain ⟨cr, hcr⟩ : ∃ cr, cr = bs r := ⟨_, rfl⟩
  rw [← hcl, ← hcr] at h1 ⊢
  have H1 := Lib.hid h1
  clear hl hr hps hp3 hpf ht htl h1 hcl hcr
  go_enter Tryd.func50, Tryd.ntmps50
  go_upto_region 1 with fail
  refine world_cut (fun W => Two32 w l r W) H1.out ?_
  clear H1
  intro W1 hW1
  have hG : ∀ W W' : World, Two32 w l r W → Below W.heap.size W W' → Two32 w l r W' := fun W W' h h' => h.keep h'
  have hB : ∀ W, Two32 w l r W → w.heap.size + 2 ≤ W.heap.size := fun W h => h.2.1.lt
  refine region_by [(5, .row (w.heap.size + 2) [1]), (6, .is (.slice (some ⟨w.heap.size, 0, none⟩) 32 32)), (7, .is (.slice (some ⟨w.heap.size + 1, 0, none⟩) 32 32)), (8, partsZF 3 ps), (9, .row (w.heap.size + 2) t), (4, .row (w.heap.size + 2) t)] [4]
    (fun W => Two32 w l r W) (by kernel_rfl) (by kernel_rfl) (by kernel_rfl) (by kernel_rfl) (by kernel_rfl) (hG _ _ hW1 (Below.refl _ _).drew) ?_ ?_
  · refine ⟨?a0, ?a1, ?a2, ?a3, ?a4, ?a5, trivial⟩
    case a0 => exact ask_build_row hG (guard_none rfl) _ 1 _ hB rfl rfl (by intro k hk; cases hk; rfl)
    case a1 => exact ask_slice (guard_none rfl) 24 (.tmp 2) none none none (.pointer (some ⟨w.heap.size, 0, none⟩)) (.slice (some ⟨w.heap.size, 0, none⟩) 32 32) none none none rfl rfl rfl rfl rfl (by intro k hk; cases hk; rfl) (fun W => slice_h32 _ W)
    case a2 => exact ask_slice (guard_none rfl) 24 (.tmp 3) none none none (.pointer (some ⟨w.heap.size + 1, 0, none⟩)) (.slice (some ⟨w.heap.size + 1, 0, none⟩) 32 32) none none none rfl rfl rfl rfl rfl (by intro k hk; cases hk; rfl) (fun W => slice_h32 _ W)
    case a3 => exact ask_build_three8 hG (guard_none rfl) (.tmp 5) (.tmp 6) (.tmp 7) [1] l r ps HPs.out rfl (fun x W hW hk => by
      have e5 : Row W (w.heap.size + 2) (x 5) [1] := hk 5 rfl
      have e6 : x 6 = .slice (some ⟨w.heap.size, 0, none⟩) 32 32 := hk 6 rfl
      have e7 : x 7 = .slice (some ⟨w.heap.size + 1, 0, none⟩) 32 32 := hk 7 rfl
      refine ⟨e5.bys, ?_, ?_⟩
      · show Bys W (x 6) l
        rw [e6]
        exact blk_bys hW.1 HL.out
      · show Bys W (x 7) r
        rw [e7]
        exact blk_bys hW.2.1 HR.out) (by intro k hk; cases hk; rfl)
    case a4 => exact ask_call_by hG (guard_none rfl) _ _ _ (.row (w.heap.size + 2) t) rfl (by kernel_rfl) (by intro k hk; cases hk; rfl) (fun x W hW hk => by
      obtain ⟨g, e8, hp⟩ : ∃ g, x 8 = .slice (some ⟨g, 0, none⟩) 3 3 ∧ Parts W g ps := hk 8 rfl
      show Calls _ _ #[x 8] W _
      rw [e8]
      refine (HC.out g W hp).mono ?_
      rintro e w' ⟨v, h1, h2, h3⟩
      exact ⟨v, h1, h2.lower (hB W hW), h3⟩)
    case a5 => exact ask_copy (guard_none rfl) (.tmp 9) (.inr rfl) (by intro k hk; cases hk; rfl)
  intro a' W3 hW hd' hs' hf'
  have t4 : Row W3 (w.heap.size + 2) (a'.tmps.getD 4 undef) t := hf' 4 rfl
  obtain ⟨us', hus, ha'⟩ := act_open 10 a' hs' hd'
  rw [← hus] at t4
  subst ha'
  have HT := Lib.hid t4
  have HW := Lib.hid hW.2.2
  clear t4 hf' hs' hd' hus hW hG hB HC
  go_wp2
  go_ret
  exact ⟨_, rfl, HT.out.lower (by omega), HW.out⟩
end Go.Proofs.YtdhfabjkpffhnaaDoor

/- The program's empty root, its leaves and its nodes. -/
namespace Go.Proofs.YtdhfabjkpffhnaaDoor
set_option maxRecDepth 20000
open Go.RowKit ShaMath LeafMath Reg

set_option maxRecDepth 100000 in
theorem empty_any (n : Int) (w : World) (hn : I64 n) (ht : Tabs w) :
    Calls Tryd.prog 15 #[.int .i64 n] w fun e w' => e = .returned (.agg (bs (emptyH n))) ∧ Below w.heap.size w w' := by
  have hb0 : ∀ o, Below w.heap.size w (w.alloc o) := fun o => (Below.refl _ _).alloc (Nat.le_refl _) o
  obtain ⟨h0, hh0⟩ : ∃ h0, h0 = ShaMath.hash [] := ⟨_, rfl⟩
  obtain ⟨cs, hcs, hcl, hone⟩ := hash_cells (emptyH n) (emptyH_length _)
  have HSum := Lib.hid (fun o => sum_any [] none 0 0 (w.alloc o) (.inl ⟨rfl, rfl⟩) (Nat.le_refl _) (by decide) (ht.below (Nat.le_refl _) (hb0 o)).1 (ht.below (Nat.le_refl _) (hb0 o)).2)
  have HNar := Lib.hid (fun W => narrow_any h0 n W (by rw [hh0]; exact hash_length []) hn)
  rw [show narrowL h0 n = emptyH n by rw [hh0]; rfl, ← hcs] at HNar
  rw [← hh0] at HSum
  rw [← hcs]
  have HB0 := Lib.hid hb0
  have HSz := Lib.hid (size_hash hcl)
  have HOne := Lib.hid hone
  have HCl := Lib.hid hcl
  clear hn ht hh0 hcs hcl hone hb0
  go_enter Tryd.func15, Tryd.ntmps15
  go_wp2_with fail
  refine (HSum.out _).mono ?_
  rintro e w1 ⟨rfl, hb1⟩
  have HB1 := Lib.hid hb1
  clear hb1 HSum
  go_wp2_with fail
  refine (HNar.out _).mono ?_
  rintro e w2 ⟨rfl, hb2⟩
  have HB2 := Lib.hid (HB1.out.trans (hb2.mono HB1.out.size))
  clear hb2 HNar HB1
  go_wp2_with (refine wpList_store_row rfl 24 (.tmp 2) (.tmp 5) rfl w.heap.size cs rfl rfl 24 _ ((Blk.new w _ _).keep HB2.out) HSz.out (by rw [HCl.out]; rfl) HOne.out ?_)
  exact bodyPost_ret (v := .agg cs) (results_cell_row rfl _ _ w.heap.size 24 cs (0, 0) _ rfl (Blk.row ((Blk.new w _ _).keep HB2.out) cs) Tryd.underlying24 rfl HSz.out) rfl ⟨rfl, below_setRow ((HB0.out _).trans (HB2.out.mono (by simp))) _ _ (Nat.le_refl _)⟩

set_option maxRecDepth 100000 in
theorem leaf_any0 (n : Int) (l : List UInt8) (a : Option Addr) (len cap : Nat) (w : World) (hn : I64 n) (hv : Bys w (.slice a len cap) l) (hl : l.length ≤ 140737488352000) (ht : Tabs w) :
    Calls Tryd.prog 17 #[.int .i64 n, .slice a len cap] w fun e w' => e = .returned (.agg (bs (leafH n l))) ∧ Below w.heap.size w w' := by
  obtain ⟨t, ht0⟩ : ∃ t, t = (0 :: l : List UInt8) := ⟨_, rfl⟩
  have htl : t.length ≤ 140737488352001 := by rw [ht0, List.length_cons]; omega
  have htn : t ≠ [] := by rw [ht0]; simp
  obtain ⟨h0, hh0⟩ : ∃ h0, h0 = ShaMath.hash t := ⟨_, rfl⟩
  obtain ⟨cs, hcs, hcl, hone⟩ := hash_cells (leafH n l) (leafH_length _ _)
  have HNar := Lib.hid (fun W => narrow_any h0 n W (by rw [hh0]; exact hash_length _) hn)
  rw [show narrowL h0 n = leafH n l by rw [hh0, ht0]; rfl, ← hcs] at HNar
  have HH := Lib.hid (fun (W : World) (hW : Below w.heap.size w W) => hashedLeaf_any l (.slice a len cap) W (hv.below (Nat.le_refl _) hW) (by omega))
  rw [← ht0] at HH
  have HSm := Lib.hid (fun (b : Option Addr) (m c : Nat) (W : World) (h : Bys W (.slice b m c) t) (hc : m ≤ c) (hb : Below w.heap.size w W) => sum_any t b m c W h hc (by omega) (ht.below (Nat.le_refl _) hb).1 (ht.below (Nat.le_refl _) hb).2)
  rw [← hh0] at HSm
  rw [← hcs]
  have HSz := Lib.hid (size_hash hcl)
  have HOne := Lib.hid hone
  have HCl := Lib.hid hcl
  have HTn := Lib.hid htn
  clear hn ht hh0 hcs hcl hone hv hl ht0 htl htn
  go_enter Tryd.func17, Tryd.ntmps17
  go_wp2_with fail
  refine (HH.out _ ((Below.refl _ _).alloc (Nat.le_refl _) _)).mono ?_
  rintro e w1 ⟨u, rfl, hr, hb⟩
  have hb0 : Below w.heap.size w (w.alloc (.cells (bs (List.replicate 32 0)) 24)) := (Below.refl _ _).alloc (Nat.le_refl _) _
  obtain ⟨g, c, hu, hg1, hg2, hg3, _⟩ := hr.shape HTn.out
  obtain ⟨m, hm⟩ : ∃ m, m = t.length := ⟨_, rfl⟩
  rw [← hm] at hu hg3
  have hby := hr.bys
  rw [hu] at hby
  subst hu
  have HBy := Lib.hid hby
  have HC := Lib.hid hg3
  have HB1 := Lib.hid (hb0.trans (hb.mono hb0.size))
  have HZ1 := Lib.hid ((Blk.new w 24 (bs (List.replicate 32 0))).keep hb)
  clear hb0 hb hr hby hm hg1 hg2 hg3 HH
  go_wp2_with fail
  refine (HSm.out _ _ _ _ HBy.out HC.out HB1.out).mono ?_
  rintro e w3 ⟨rfl, hb⟩
  have HB3 := Lib.hid (HB1.out.trans (hb.mono HB1.out.size))
  have HZ3 := Lib.hid (HZ1.out.keep hb)
  clear hb HB1 HZ1 HBy
  go_wp2_with fail
  refine (HNar.out _).mono ?_
  rintro e w4 ⟨rfl, hb⟩
  have HB4 := Lib.hid (HB3.out.trans (hb.mono HB3.out.size))
  have HZ4 := Lib.hid (HZ3.out.keep hb)
  clear hb HB3 HZ3
  go_wp2_with (refine wpList_store_row rfl 24 (.tmp 4) (.tmp 9) rfl w.heap.size cs rfl rfl 24 _ HZ4.out HSz.out (by rw [HCl.out]; rfl) HOne.out ?_)
  exact bodyPost_ret (v := .agg cs) (results_cell_row rfl _ _ w.heap.size 24 cs (0, 0) _ rfl (Blk.row HZ4.out cs) Tryd.underlying24 rfl HSz.out) rfl ⟨rfl, below_setRow HB4.out _ _ (Nat.le_refl _)⟩
end Go.Proofs.YtdhfabjkpffhnaaDoor

/- The program's nodes. -/
namespace Go.Proofs.YtdhfabjkpffhnaaDoor
set_option maxRecDepth 20000
open Go.RowKit ShaMath LeafMath Reg

set_option maxRecDepth 100000 in
theorem node_any (n : Int) (l r : List UInt8) (w : World) (hn : I64 n) (hl : l.length = 32) (hr : r.length = 32) (ht : Tabs w) :
    Calls Tryd.prog 19 #[.int .i64 n, .agg (bs l), .agg (bs r)] w fun e w' => e = .returned (.agg (bs (nodeH n l r))) ∧ Below w.heap.size w w' := by
  obtain ⟨t, ht0⟩ : ∃ t, t = (1 :: (l ++ r) : List UInt8) := ⟨_, rfl⟩
  have htl : t.length = 65 := by rw [ht0, List.length_cons, List.length_append, hl, hr]
  have htn : t ≠ [] := by rw [ht0]; simp
  obtain ⟨h0, hh0⟩ : ∃ h0, h0 = ShaMath.hash t := ⟨_, rfl⟩
  obtain ⟨cs, hcs, hcs1, hone⟩ := hash_cells (nodeH n l r) (nodeH_length _ _ _)
  have HNar := Lib.hid (fun W => narrow_any h0 n W (by rw [hh0]; exact hash_length _) hn)
  rw [show narrowL h0 n = nodeH n l r by rw [hh0, ht0]; rfl, ← hcs] at HNar
  have HH := Lib.hid (fun (W : World) => hashedNode_any l r W hl hr)
  rw [← ht0] at HH
  have HSm := Lib.hid (fun (b : Option Addr) (m c : Nat) (W : World) (h : Bys W (.slice b m c) t) (hc : m ≤ c) (hb : Below w.heap.size w W) => sum_any t b m c W h hc (by omega) (ht.below (Nat.le_refl _) hb).1 (ht.below (Nat.le_refl _) hb).2)
  rw [← hh0] at HSm
  rw [← hcs]
  have HSz := Lib.hid (size_hash hcs1)
  have HOne := Lib.hid hone
  have HCl := Lib.hid hcs1
  have HTn := Lib.hid htn
  have HSl := Lib.hid (size_hash (cs := bs l) (by rw [bs_size, hl]))
  have HSr := Lib.hid (size_hash (cs := bs r) (by rw [bs_size, hr]))
  have h1 := Two32.new w l r
  obtain ⟨cl, hcl⟩ : ∃ cl, cl = bs l := ⟨_, rfl⟩
  obtain ⟨cr, hcr⟩ : ∃ cr, cr = bs r := ⟨_, rfl⟩
  have HCL := Lib.hid hcl
  have HCR := Lib.hid hcr
  rw [← hcl] at HSl HH h1 ⊢
  rw [← hcr] at HSr HH h1 ⊢
  have H1 := Lib.hid h1
  clear hn ht hh0 hcs hcs1 hone hl hr h1 hcl hcr ht0 htl htn
  go_enter Tryd.func19, Tryd.ntmps19
  go_upto_region 1 with fail
  have h2 : Two32 w l r (((w.alloc (.cells cl 24)).alloc (.cells cr 24)).alloc (.cells (bs (List.replicate 32 0)) 24)) := H1.out.keep ((Below.refl _ _).alloc (Nat.le_refl _) _)
  refine world_cut (fun W => Blk W w.heap.size 24 cl ∧ Blk W (w.heap.size + 1) 24 cr ∧ Below w.heap.size w W ∧ Blk W (w.heap.size + 2) 24 (bs (List.replicate 32 0))) ⟨by have := h2.1; rwa [← HCL.out] at this, by have := h2.2.1; rwa [← HCR.out] at this, h2.2.2, Blk.newAt _ _ _ _ _ (by simp) rfl⟩ ?_
  clear h2 H1
  rintro W1 ⟨k1, k2, hb1, hz1⟩
  have K1 := Lib.hid k1
  have K2 := Lib.hid k2
  have HB1 := Lib.hid hb1
  have HZ1 := Lib.hid hz1
  clear k1 k2 hb1 hz1
  go_wp2_with (first
    | (refine wpList_load_row rfl 24 (.tmp 4) rfl w.heap.size rfl _ _ _ _ K1.out Tryd.underlying24 rfl HSl.out ?_)
    | (refine wpList_load_row rfl 24 (.tmp 5) rfl (w.heap.size + 1) rfl _ _ _ _ K2.out Tryd.underlying24 rfl HSr.out ?_))
  refine (HH.out _).mono ?_
  rintro e w2 ⟨u, rfl, hr, hb⟩
  obtain ⟨g, c, hu, hg1, hg2, hg3, _⟩ := hr.shape HTn.out
  obtain ⟨m, hm⟩ : ∃ m, m = t.length := ⟨_, rfl⟩
  rw [← hm] at hu hg3
  have hby := hr.bys
  rw [hu] at hby
  subst hu
  have HBy := Lib.hid hby
  have HC := Lib.hid hg3
  have HB2 := Lib.hid (HB1.out.trans (hb.mono HB1.out.size))
  have HZ2 := Lib.hid (HZ1.out.keep hb)
  clear hb hr hby hm hg1 hg2 hg3 HH K1 K2 HB1 HZ1
  go_wp2_with fail
  refine (HSm.out _ _ _ _ HBy.out HC.out HB2.out).mono ?_
  rintro e w3 ⟨rfl, hb⟩
  have HB3 := Lib.hid (HB2.out.trans (hb.mono HB2.out.size))
  have HZ3 := Lib.hid (HZ2.out.keep hb)
  clear hb HB2 HZ2 HBy
  go_wp2_with fail
  refine (HNar.out _).mono ?_
  rintro e w4 ⟨rfl, hb⟩
  have HB4 := Lib.hid (HB3.out.trans (hb.mono HB3.out.size))
  have HZ4 := Lib.hid (HZ3.out.keep hb)
  clear hb HB3 HZ3
  go_wp2_with (refine wpList_store_row rfl 24 (.tmp 6) (.tmp 12) rfl (w.heap.size + 2) cs rfl rfl 24 _ HZ4.out HSz.out (by rw [HCl.out]; rfl) HOne.out ?_)
  exact bodyPost_ret (v := .agg cs) (results_cell_row rfl _ _ (w.heap.size + 2) 24 cs (0, 0) _ rfl (Blk.row HZ4.out cs) Tryd.underlying24 rfl HSz.out) rfl ⟨rfl, below_setRow HB4.out _ _ (by omega)⟩
end Go.Proofs.YtdhfabjkpffhnaaDoor

/- The program's roots. -/
namespace Go.Proofs.YtdhfabjkpffhnaaDoor
set_option maxRecDepth 20000
open Go.RowKit ShaMath LeafMath Reg

end Go.Proofs.YtdhfabjkpffhnaaDoor

/- The program's functions of layer 14 answer what they are to answer. -/
namespace Go.Proofs.YtdhfabjkpffhnaaDoor
set_option maxRecDepth 20000
open Go.RowKit ShaMath LeafMath Reg

end Go.Proofs.YtdhfabjkpffhnaaDoor

