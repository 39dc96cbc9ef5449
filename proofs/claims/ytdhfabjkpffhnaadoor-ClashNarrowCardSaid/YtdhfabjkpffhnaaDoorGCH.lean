/- Joined: LeafBits, HsConcat. -/
import Derived.Test.YtdhfabjkpffhnaaDoorGCB
import Derived.Test.YtdhfabjkpffhnaaDoorGCC
import Derived.Test.YtdhfabjkpffhnaaDoorBinLen
import Derived.Test.YtdhfabjkpffhnaaDoorGCM
import Derived.Test.YtdhfabjkpffhnaaDoorArmsC
import Derived.Lib.AppendZerosOnto
import Derived.Great.BuildSlice
/- How many bits of a number are 1; whether a range is right; the greatest power of 2 below a number: the program's. -/
namespace Go.Proofs.YtdhfabjkpffhnaaDoor
set_option maxRecDepth 20000
open Go.RowKit ShaMath LeafMath Reg

theorem u64_of (x : Nat) (h : x < 18446744073709551616) (z : Int) (hz : z = x) : IntKind.u64.wrap z = (x : Int) := by
  rw [hz, IntKind.wrap_u64]
  omega

theorem onesCount_any (x : Nat) (w : World) (hx : x < 18446744073709551616) :
    Calls Tryd.prog 57 #[.int .u64 (x : Int)] w fun e w' => e = .returned (.int .i64 (ones x : Int)) ∧ w' = w := by
  obtain ⟨p0, p1, p2, p3, p4, p5, p6, p7, h0, h1, h2, h3, h4, h5, h6, h7, ho, hy⟩ := three_steps x hx
  obtain ⟨y1, hy1⟩ : ∃ y, y = s1 8 x := ⟨_, rfl⟩
  rw [← hy1] at hy
  obtain ⟨y2, hy2⟩ : ∃ y, y = s2 8 y1 := ⟨_, rfl⟩
  rw [← hy2] at hy
  obtain ⟨y3, hy3⟩ : ∃ y, y = s3 8 y2 := ⟨_, rfl⟩
  rw [← hy3] at hy
  obtain ⟨y4, y5, y6, e4, e5, e6, b3, b4, b5, b6, hr⟩ := last_steps y3 p0 p1 p2 p3 p4 p5 p6 p7 h0 h1 h2 h3 h4 h5 h6 h7 hy
  rw [← ho] at hr
  clear h0 h1 h2 h3 h4 h5 h6 h7 ho hy
  have m1 : ∀ a : Nat, a &&& rep 85 8 ≤ 6148914691236517205 := fun a => Nat.and_le_right
  have m2 : ∀ a : Nat, a &&& rep 51 8 ≤ 3689348814741910323 := fun a => Nat.and_le_right
  have b1 : y1 < 18446744073709551616 := by
    have := m1 (x / 2); have := m1 x
    rw [hy1, s1]; omega
  have b2 : y2 ≤ 7378697629483820646 := by
    have := m2 (y1 / 4); have := m2 y1
    rw [hy2, s2]; omega
  have k1 : IntKind.u64.wrap (bits BinOp.and IntKind.u64 ((x : Int) / 2) 6148914691236517205 + bits BinOp.and IntKind.u64 (x : Int) 6148914691236517205) = (y1 : Int) := by
    refine u64_of y1 b1 _ ?_
    rw [show ((x : Int) / 2) = ((x / 2 : Nat) : Int) by omega, show (6148914691236517205 : Int) = ((6148914691236517205 : Nat) : Int) from rfl, bits_and_u64_nat _ _ (by omega) (by decide), bits_and_u64_nat _ _ hx (by decide), hy1, s1]
    exact (Int.natCast_add _ _).symm
  have k2 : IntKind.u64.wrap (bits BinOp.and IntKind.u64 ((y1 : Int) / 4) 3689348814741910323 + bits BinOp.and IntKind.u64 (y1 : Int) 3689348814741910323) = (y2 : Int) := by
    refine u64_of y2 (by omega) _ ?_
    rw [show ((y1 : Int) / 4) = ((y1 / 4 : Nat) : Int) by omega, show (3689348814741910323 : Int) = ((3689348814741910323 : Nat) : Int) from rfl, bits_and_u64_nat _ _ (by omega) (by decide), bits_and_u64_nat _ _ b1 (by decide), hy2, s2]
    exact (Int.natCast_add _ _).symm
  have k3 : bits BinOp.and IntKind.u64 (IntKind.u64.wrap ((y2 : Int) / 16 + y2)) 1085102592571150095 = (y3 : Int) := by
    rw [u64_of (y2 / 16 + y2) (by omega) _ (by omega), show (1085102592571150095 : Int) = ((1085102592571150095 : Nat) : Int) from rfl, bits_and_u64_nat _ _ (by omega) (by decide), hy3, s3]
    rfl
  have k4 : IntKind.u64.wrap ((y3 : Int) + (y3 : Int) / 256) = (y4 : Int) := u64_of y4 (by omega) _ (by omega)
  have k5 : IntKind.u64.wrap ((y4 : Int) + (y4 : Int) / 65536) = (y5 : Int) := u64_of y5 (by omega) _ (by omega)
  have k6 : IntKind.u64.wrap ((y5 : Int) + (y5 : Int) / 4294967296) = (y6 : Int) := u64_of y6 (by omega) _ (by omega)
  have k7 : bits BinOp.and IntKind.i64 (wrap64 (y6 : Int)) 127 = (ones x : Int) := by
    rw [i64_and127, show wrap64 (y6 : Int) = (y6 : Int) by unfold wrap64; omega]
    omega
  have K1 := Lib.hid k1
  have K2 := Lib.hid k2
  have K3 := Lib.hid k3
  have K4 := Lib.hid k4
  have K5 := Lib.hid k5
  have K6 := Lib.hid k6
  have K7 := Lib.hid k7
  clear k1 k2 k3 k4 k5 k6 k7 hy1 hy2 hy3 e4 e5 e6 b1 b2 b3 b4 b5 b6 m1 m2 hr hx
  go_enter Tryd.func57, Tryd.ntmps57
  go_upto_region 2 with fail
  rw [K1.out]
  go_upto_region 3 with fail
  rw [K2.out]
  go_upto_region 4 with fail
  rw [K3.out]
  go_upto_region 5 with fail
  rw [K4.out]
  go_upto_region 6 with fail
  rw [K5.out]
  go_upto_region 7 with fail
  rw [K6.out]
  go_wp2
  rw [K7.out]
  go_ret
  exact ⟨rfl, rfl⟩

end Go.Proofs.YtdhfabjkpffhnaaDoor

/- slices.Grow of the nil slice, and slices.Concat, over hashes. -/
namespace Go.Proofs.YtdhfabjkpffhnaaDoor
set_option maxRecDepth 20000
open Go.RowKit ShaMath LeafMath

/-- append in a walk, of a make. -/
theorem hAppend_by2 {P : Program} {w : World} {ops : Array Oper} {rest : List Oper} {o : Oper} {a : Act} {Q : Exit → Act → World → Prop} (hgd : o.guard = none) (s x : Operand) (t t2 : TypeId)
    (ho : o.op = .call { callee := .builtin .append, args := #[s, x], argTypes := #[t, t2] }) (v y : Value) (hs : a.eval s = v) (hx : a.eval x = y) (R : Value → World → Prop)
    (hr : ∃ v' w', (Builtin.append_ #[t, t2] o.type #[v, y]).run P w = .ok v' w' ∧ R v' w')
    (h : ∀ v' w', R v' w' → wpList P ops Q rest (a.put o.dst v') w') : wpList P ops Q (o :: rest) a w := by
  obtain ⟨v', w', hrun, hR⟩ := hr
  refine wpList_plain hgd fun K hK => ?_
  unfold Oper.wp
  simp [execOp, ho, resolve, invoke, builtin, hs, hx, hrun, Result.andThen]
  exact hK _ _ (h v' w' hR)

/-- append([]byte(nil), make([]byte, k)...). -/
theorem hAppend_none_zeros (w : World) (k : Nat) (h0 : 0 < k) (hk : k ≤ 1099511627776) :
    ∃ v' w', (Builtin.append_ #[30, 3] 30 #[.slice none 0 0, .int .i64 (k : Int)]).run Tryd.prog w = .ok v' w' ∧ ∃ g cap cur, v' = .slice (some ⟨g, 0, none⟩) k cap ∧ w.heap.size ≤ g ∧ w'.heap[g]? = some (.cells cur 24 (0, 0)) ∧ cap ≤ maxLen ∧ k ≤ cap ∧ cur.size = cap * 32 ∧ Below w.heap.size w w' := by
  obtain ⟨i0, hi, hz0, hz1, hz2⟩ := info_parts info_hash
  have hr := Lib.run_append_nil_zeros (P := Tryd.prog) w 30 3 30 24 i0 (.agg (bs (List.replicate 32 0))) .i64 .i64 Tryd.underlying30 Tryd.underlying3 hi hz0 k (by omega) (by omega) (by omega) (by rw [hz2]; omega)
  have hge := grownCap_ge w k 0 24
  have hle := grownCap_le_maxLen w k 0 24 (by unfold maxLen; omega)
  refine ⟨_, _, hr, w.heap.size, _, _, rfl, Nat.le_refl _, heap_alloc_new w.drew _, hle, hge, ?_, (Below.refl _ _).drew.alloc (Nat.le_refl _) _⟩
  rw [Array.size_append, size_zeroCells, size_zeroCells, show (Value.agg (bs (List.replicate 32 0))).cells.size = 32 from rfl]
  omega

set_option maxHeartbeats 1000000 in
theorem hGrow_any (n : Nat) (w : World) (hn : n ≤ 1099511627776) :
    Calls Tryd.prog 80 #[.slice none 0 0, .int .i64 (n : Int)] w fun e w' => ∃ v', e = .returned v' ∧ OHs w' w.heap.size v' [] ∧ Below w.heap.size w w' := by
  by_cases h0 : n = 0
  · subst h0
    go_enter Tryd.func80, Tryd.ntmps80
    go_wp2
    go_ret
    exact ⟨_, rfl, OHs.none _ _, Below.refl _ _⟩
  · have A1 := Lib.hid (hAppend_none_zeros w n (by omega) hn)
    have h1 : ¬ ((n : Int) < 0) := by omega
    have h2 : (0 : Int) < (n : Int) := by omega
    clear h0
    go_enter Tryd.func80, Tryd.ntmps80
    go_wp2_with (at_builtin; refine hAppend_by2 rfl _ _ 30 3 rfl _ _ rfl rfl _ A1.out ?_; rintro x w2 ⟨g, cap, cur, rfl, hg1, hg2, hg3, hg4, hg5, hg6⟩; (have H2 := Lib.hid hg2); (have H5 := Lib.hid hg5); (have H6 := Lib.hid hg6); clear hg2 hg5 hg6)
    go_ret
    refine ⟨_, rfl, ⟨All32.nil, by simp [hcells], .inr ⟨g, cap, cur, rfl, hg1, H2.out, Nat.zero_le _, hg3, by simpa using H5.out, by simp [hcells]⟩⟩, H6.out⟩

/-- A list of texts in cells of a row. -/
def HParts (w : World) (g : Nat) (ls : List (List Hs)) : Prop := ∀ i (h : i < ls.length), ∃ v, w.cell? ⟨g, i, none⟩ = some v ∧ Hss w v ls[i]

theorem HParts.below {w w' : World} {g : Nat} {ls : List (List Hs)} (h : HParts w g ls) {B : Nat} (hB : w.heap.size ≤ B) (hb : Below B w w') : HParts w' g ls := fun i hi => by
  obtain ⟨v, hc, hv⟩ := h i hi
  exact ⟨v, by rw [hb.cell (p := ⟨g, i, none⟩) (Nat.lt_of_lt_of_le (World.block_lt_of_cell? w _ hc) hB)]; exact hc, hv.below hB hb⟩

/-- How many bytes the first i have. -/
def hLenTo (ls : List (List Hs)) (i : Nat) : Nat := (ls.take i).flatten.length

theorem hTake_step (ls : List (List Hs)) (i : Nat) (hi : i < ls.length) : (ls.take (i + 1)).flatten = (ls.take i).flatten ++ ls[i] := by
  rw [List.take_add_one, List.getElem?_eq_getElem hi]
  simp only [Option.toList_some, List.flatten_append, List.flatten_cons, List.flatten_nil, List.append_nil]

theorem hLenTo_step (ls : List (List Hs)) (i : Nat) (hi : i < ls.length) : hLenTo ls (i + 1) = hLenTo ls i + ls[i].length := by
  unfold hLenTo
  rw [hTake_step ls i hi, List.length_append]

theorem hLenTo_le (ls : List (List Hs)) (i : Nat) : hLenTo ls i ≤ ls.flatten.length := by
  unfold hLenTo
  have h := congrArg List.flatten (List.take_append_drop i ls)
  rw [List.flatten_append] at h
  rw [← h, List.length_append]
  omega

set_option maxHeartbeats 2000000 in
theorem hConcat_any (g n : Nat) (ls : List (List Hs)) (w : World) (h : HParts w g ls) (hn : n = ls.length) (hn4 : n ≤ 1099511627776) (hl : ls.flatten.length ≤ 1099511627776) :
    Calls Tryd.prog 56 #[.slice (some ⟨g, 0, none⟩) n n] w fun e w' => ∃ v', e = .returned v' ∧ OHs w' w.heap.size v' ls.flatten ∧ Below w.heap.size w w' := by
  have HN := Lib.hid hn
  have HP := Lib.hid h
  obtain ⟨T, hT⟩ : ∃ T, T = ls.flatten.length := ⟨_, rfl⟩
  have hle := fun i => hLenTo_le ls i
  rw [← hT] at hl hle
  have HL := Lib.hid hle
  have HT := Lib.hid hT
  have hz : hLenTo ls 0 = 0 := by simp [hLenTo]
  have HZ := Lib.hid hz
  clear hn h hle hT hz
  go_enter Tryd.func56, Tryd.ntmps56
  go_wp2
  go_loop [3, 11] (fun s3 s11 => ∃ i s : Nat, i ≤ n ∧ s11 = .int .i64 (i : Int) ∧ s3 = .int .i64 (s : Int) ∧ s = hLenTo ls i) (fun _ s11 => n - (intOf s11).toNat)
  case atStart => exact ⟨0, 0, by omega, rfl, rfl, HZ.out.symm⟩
  case round =>
    obtain ⟨i, s, hi, rfl, rfl, hs⟩ := hrel
    have hsl : s ≤ T := by rw [hs]; exact HL.out i
    have HS := Lib.hid hs
    clear hs
    by_cases hlt : i < n
    · have hil : i < ls.length := by have := HN.out; omega
      obtain ⟨v, hc, hv⟩ := HP.out i hil
      obtain ⟨a, cap, rfl, -⟩ := hv.form
      have hst := hLenTo_step ls i hil
      have hlu := HL.out (i + 1)
      obtain ⟨m, hm⟩ : ∃ m, m = ls[i].length := ⟨_, rfl⟩
      rw [← hm] at hc hst
      rw [← HS.out] at hst
      rw [hst] at hlu
      have HST := Lib.hid hst
      clear hst hv hm hil
      go_wp2
      go_round
      case rel => exact ⟨i + 1, s + m, by omega, by go_num, by go_num, HST.out.symm⟩
      case measure => simp [intOf]; omega
    · obtain rfl : i = n := by omega
      have HG := Lib.hid (hGrow_any s w (by omega))
      go_wp2_with fail
      refine HG.out.mono ?_
      rintro e w1 ⟨v1, rfl, hr1, hb1⟩
      have HR1 := Lib.hid hr1
      have HB1 := Lib.hid hb1
      clear hr1 hb1 HG hlt
      go_wp2
      go_loopw [6, 27] (fun s6 s27 wr => ∃ j : Nat, j ≤ i ∧ s27 = .int .i64 (j : Int) ∧ OHs wr w.heap.size s6 (ls.take j).flatten ∧ Below w.heap.size w wr) (fun _ s27 _ => i - (intOf s27).toNat)
      case atStart => exact ⟨0, by omega, rfl, by simpa using HR1.out, HB1.out⟩
      case round =>
        obtain ⟨j, hj, rfl, hrow, hbw⟩ := hrel
        by_cases hlj : j < i
        · have hjl : j < ls.length := by have := HN.out; omega
          obtain ⟨v, hc, hv⟩ := HP.out j hjl
          have hlen := HL.out (j + 1)
          have hst := hTake_step ls j hjl
          unfold hLenTo at hlen
          rw [hst, List.length_append] at hlen
          have hc1 : wr.cell? ⟨g, j, none⟩ = some v := by rw [hbw.cell (p := ⟨g, j, none⟩) (World.block_lt_of_cell? w _ hc)]; exact hc
          obtain ⟨x0, hx0⟩ : ∃ x0, x0 = ls[j] := ⟨_, rfl⟩
          rw [← hx0] at hv hlen hst
          have A2 := append_hs hbw.size hrow (hv.below (Nat.le_refl _) hbw) (by omega)
          have H2 := Lib.hid A2
          have HST := Lib.hid hst
          have HR := Lib.hid hrow
          have HB := Lib.hid hbw
          clear hc hv hlen hst A2 hrow hbw hx0 hjl
          go_wp2_with (at_builtin; refine wpList_append_by rfl _ _ 30 rfl _ _ rfl rfl _ H2.out ?_; rintro x w2 ⟨hr2, hb2⟩; (have HR2 := Lib.hid hr2); (have HB2 := Lib.hid hb2); clear hr2 hb2)
          go_round
          case rel => exact ⟨j + 1, by omega, by go_num, by rw [HST.out]; exact HR2.out, HB.out.grown HB2.out HB.out.size fun k hk => (World.ownsRow.lt HR.out.2 k hk).1⟩
          case measure => simp [intOf]; omega
        · have e : ls.take j = ls := List.take_of_length_le (by have := HN.out; omega)
          rw [e] at hrow
          have HR := Lib.hid hrow
          have HB := Lib.hid hbw
          clear hrow hbw
          go_wp2
          go_ret
          exact ⟨_, rfl, HR.out, HB.out⟩

end Go.Proofs.YtdhfabjkpffhnaaDoor

