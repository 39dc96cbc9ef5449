/- Joined: CmdMembers, CmdConcat, CmdSame. -/
import Derived.Test.YtgbhfolbkgibfaaLAJ
import Derived.Lib.AppendZerosOnto
import Derived.Great.BuildSlice
/- The members, read by the program. -/
namespace Go.Proofs.Ytgbhfolbkgibfaa
set_option maxRecDepth 20000
open Go.RowKit BinMath CmdMath
variable {G : Nat}

theorem NRow.to {w w' : World} {B : Nat} {v : Value} {l : List Nat} (h : NRow w B v l) (hk : ∀ k, v.ownBlock = some k → w'.heap[k]? = w.heap[k]?) : NRow w' B v l := ownsRow_to h hk

theorem NRow.only {w w' : World} {B R : Nat} {v : Value} {l : List Nat} (h : NRow w B v l) (hR : R < B) (ho : Only R w w') : NRow w' B v l :=
  h.to fun k hk => by
    have := World.ownsRow.lt h k hk
    exact ho.block k this.2 (by omega)

theorem NRow.keep {w w' : World} {B : Nat} {v : Value} {l : List Nat} (h : NRow w B v l) (hb : Below w.heap.size w w') : NRow w' B v l := ownsRow_keep h hb

theorem made_nums (n : Nat) : (madeCells (Value.int .u64 0).cells (n * 1)).toList = (List.replicate n 0).map uv := by
  apply List.ext_getElem
  · simp [madeCells, Value.cells]
  · intro i h1 h2
    simp [madeCells, Value.cells, uv, Nat.mod_one]

theorem made_num_row {w : World} {B g n : Nat} (h : w.ownsRow B 31 1 (.slice (some ⟨g, 0, none⟩) n n) n (madeCells (Value.int .u64 0).cells (n * 1)).toList) : NRow w B (.slice (some ⟨g, 0, none⟩) n n) (List.replicate n 0) := by
  unfold NRow
  rw [List.length_replicate, ← made_nums]
  exact h

theorem nrow_set {w : World} {B g n c : Nat} {l : List Nat} (h : NRow w B (.slice (some ⟨g, 0, none⟩) n c) l) (hn : l.length = n) (j x : Nat) : NRow (w.setCell ⟨g, j, none⟩ (.int .u64 (x : Int))) B (.slice (some ⟨g, 0, none⟩) n c) (l.set j x) := by
  subst hn
  have h1 := (World.ownsRow.stored h j (uv x)).1
  unfold NRow
  rw [List.length_set, List.map_set]
  exact h1

theorem nrow_at {w : World} {B g n c : Nat} {l : List Nat} (h : NRow w B (.slice (some ⟨g, 0, none⟩) n c) l) (hn : l.length = n) (i : Nat) (hi : i < l.length) : w.cell? ⟨g, i, none⟩ = some (.int .u64 (l[i] : Int)) ∧ w.frozen? ⟨g, i, none⟩ = false := by
  subst hn
  have h1 := World.ownsRow.cellAt h i (by omega)
  refine ⟨?_, World.ownsRow.frozenAt h i⟩
  rw [h1]
  simp [hi, uv]

theorem At.only {w w' : World} {R : Nat} {l r : List UInt8} {S : Nat → Prop} (h : At w R G l r) (ho : OnlyS S w w') (hS : ∀ b, b < G → ¬ S b) (hSR : ¬ S R) : At w' R G l r := by
  obtain ⟨k, hk, e⟩ := h
  exact ⟨k, hk.only ho hS hSR, e⟩

theorem At.below {w w' : World} {R : Nat} {l r : List UInt8} (h : At w R G l r) (hb : Below w.heap.size w w') : At w' R G l r := by
  obtain ⟨k, hk, e⟩ := h
  exact ⟨k, hk.below hb, e⟩

theorem At.lt {w : World} {R : Nat} {l r : List UInt8} (h : At w R G l r) : R < w.heap.size ∧ G ≤ w.heap.size := by
  obtain ⟨k, hk, e⟩ := h
  have := hk.facts
  exact ⟨this.1, this.2.2.2⟩

/-- How the reading of the members ends. -/
def MemEnd (G R : Nat) (l r : List UInt8) (w : World) (e : Ending) (w' : World) : Prop :=
  Only R w w' ∧ match gMem r with
    | .ok (m, q) => ∃ v, e = .returned v ∧ NRow w' w.heap.size v m ∧ At w' R G l q
    | .error c => e = .panicked (lostC c)

theorem set_next (pre : List Nat) (n i x : Nat) (hp : pre.length = i) (hi : i < n) : (pre ++ List.replicate (n - i) 0).set i x = (pre ++ [x]) ++ List.replicate (n - (i + 1)) 0 := by
  subst hp
  rw [List.set_append_right _ _ (Nat.le_refl _), Nat.sub_self, show n - pre.length = (n - (pre.length + 1)) + 1 by omega, List.replicate_succ]
  simp

/-- What the first ones that were read make of the rest. -/
def joinR (pre : List Nat) : Except Nat (List Nat × List UInt8) → Except Nat (List Nat × List UInt8)
  | .error c => .error c
  | .ok (ids, q) => .ok (pre ++ ids, q)

theorem gIds_none {n last c : Nat} {r : List UInt8} (h : gNum r = .error c) : gIds (n + 1) last r = .error c := by
  simp only [gIds, h]

theorem gIds_bad {n last x : Nat} {r q : List UInt8} (h : gNum r = .ok (x, q)) (hx : ¬ (last < x ∧ x ≤ 7)) : gIds (n + 1) last r = .error 3 := by
  simp only [gIds, h, if_neg hx]

theorem gIds_next {n last x : Nat} {r q : List UInt8} (pre : List Nat) (h : gNum r = .ok (x, q)) (hx : last < x ∧ x ≤ 7) : joinR pre (gIds (n + 1) last r) = joinR (pre ++ [x]) (gIds n x q) := by
  simp only [gIds, h, if_pos hx]
  cases gIds n x q with
  | error c => rfl
  | ok p => obtain ⟨ids, q'⟩ := p; simp [joinR]

theorem gMem_ok {n : Nat} {r q : List UInt8} (h : gNum r = .ok (n, q)) (hn : 1 ≤ n ∧ n ≤ 7) : gMem r = joinR [] (gIds n 0 q) := by
  simp only [gMem, h, if_pos hn]
  cases gIds n 0 q with
  | error c => rfl
  | ok p => obtain ⟨ids, q'⟩ := p; simp [joinR]

set_option maxHeartbeats 4000000 in
theorem rmembers_any {R : Nat} {l r : List UInt8} {w : World} (h : At w R G l r) :
    Calls Try.prog 113 #[.pointer (some ⟨R, 0, none⟩)] w (MemEnd G R l r w) := by
  obtain ⟨i0, hi, hz0, hz1, hz2⟩ := info_parts info_num
  have hlt := h.lt
  cases hn : gNum r with
  | error c =>
    have hc := gNum_err hn
    have e : gMem r = .error c := by simp only [gMem, hn]
    have HN := Lib.hid (readNum_bad h hn)
    have HE := Lib.hid e
    have HT := Lib.hid (fun w => takeNum_bad 0 c w (by omega))
    clear h hn hc e
    go_enter Try.func113, Try.ntmps113
    go_wp2_with fail
    refine HN.out.mono ?_
    rintro e w1 ⟨rfl, ho⟩
    have HO := Lib.hid ho
    clear ho
    go_wp2_with fail
    refine (HT.out _).mono ?_
    rintro e w2 ⟨rfl, rfl⟩
    refine ⟨rfl, HO.out, ?_⟩
    rw [HE.out]
  | ok p =>
    obtain ⟨n, q⟩ := p
    have hn64 := (gNum_back hn).1
    have HN := Lib.hid (readNum_ok h hn)
    by_cases h17 : 1 ≤ n ∧ n ≤ 7
    · have e := gMem_ok hn h17
      have hct := fun W => isCount_any n W hn64
      rw [decide_eq_true h17] at hct
      have HE := Lib.hid e
      have HT := Lib.hid hct
      have hn7 := h17.2
      clear h hn e hct h17
      go_enter Try.func113, Try.ntmps113
      go_wp2_with fail
      refine HN.out.mono ?_
      rintro e w1 ⟨rfl, ha, ho⟩
      have HA := Lib.hid ha
      have HO := Lib.hid ho
      clear ha ho
      go_wp2_with fail
      refine (takeNum_ok n _).mono ?_
      rintro e w2 ⟨rfl, rfl⟩
      go_wp2_with fail
      refine (HT.out _).mono ?_
      rintro e w2 ⟨rfl, rfl⟩
      go_wp2_with fail
      refine (ask_yes _).mono ?_
      rintro e w2 ⟨rfl, rfl⟩
      have hsz : w.heap.size ≤ w2.heap.size := HO.out.size
      obtain ⟨g, hg⟩ : ∃ g, g = w2.heap.size := ⟨_, rfl⟩
      go_wp2_with (at_make; refine wpList_make_full _ rfl _ _ 33 rfl w.heap.size 31 i0 (.int .u64 0) 1 Try.underlying33 hi hz0 hz1 _ _ _ _ n rfl rfl rfl rfl (by rw [hz2]; omega) (by unfold maxLen; omega) hsz ?_; intro w3 hown hgrow; (have hb3 := (Below.refl _ w2).grown hgrow (Nat.le_refl _) (by simp)); (have HR3 := Lib.hid (made_num_row hown)); (have HA3 := Lib.hid (HA.out.below hb3)); (have HO3 := Lib.hid (HO.out.trans (Only.of_below hb3))); clear hown hgrow hb3)
      rw [← hg] at HR3 ⊢
      have hgw : w.heap.size ≤ g := by omega
      clear hg
      go_loopw [5, 20] (fun s5 s20 wr => ∃ (i last : Nat) (pre : List Nat) (rr : List UInt8), i ≤ n ∧ s20 = .int .i64 (i : Int) ∧ s5 = .int .u64 (last : Int) ∧ pre.length = i ∧ NRow wr w.heap.size (.slice (some ⟨g, 0, none⟩) n n) (pre ++ List.replicate (n - i) 0) ∧ At wr R G l rr ∧ Only R w wr ∧ gMem r = joinR pre (gIds (n - i) last rr)) (fun _ s20 _ => n - (intOf s20).toNat)
      case atStart => exact ⟨0, 0, [], q, by omega, rfl, rfl, rfl, HR3.out, HA3.out, HO3.out, HE.out⟩
      case round =>
        obtain ⟨i, last, pre, rr, hi, rfl, rfl, hpl, hrow, hat, hon, heq⟩ := hrel
        have HPl := Lib.hid hpl
        have HRow := Lib.hid hrow
        have HAt := Lib.hid hat
        have HOn := Lib.hid hon
        have HEq := Lib.hid heq
        clear hpl hrow hon heq
        by_cases hlt2 : i < n
        · obtain ⟨k, hk⟩ : ∃ k, n - i = k + 1 := ⟨n - i - 1, by omega⟩
          cases hx : gNum rr with
          | error c =>
            have hc := gNum_err hx
            have HN2 := Lib.hid (readNum_bad hat hx)
            have HE2 := Lib.hid (show gMem r = .error c by rw [HEq.out, hk, gIds_none hx]; rfl)
            have HT2 := Lib.hid (fun w => takeNum_bad 0 c w (by omega))
            clear hat hx hc hk
            go_wp2_with fail
            refine HN2.out.mono ?_
            rintro e w4 ⟨rfl, ho⟩
            have HO4 := Lib.hid (HOn.out.trans ho)
            clear ho
            go_wp2_with fail
            refine (HT2.out _).mono ?_
            rintro e w5 ⟨rfl, rfl⟩
            refine ⟨rfl, HO4.out, ?_⟩
            rw [HE2.out]
          | ok p =>
            obtain ⟨x, q2⟩ := p
            have hx64 := (gNum_back hx).1
            have HN2 := Lib.hid (readNum_ok hat hx)
            have hnx := fun W => isNext_any last x W hx64
            by_cases hxl : last < x ∧ x ≤ 7
            · rw [decide_eq_true hxl] at hnx
              have HX := Lib.hid hnx
              have HE2 := Lib.hid (show gMem r = joinR (pre ++ [x]) (gIds (n - (i + 1)) x q2) by rw [HEq.out, hk, gIds_next pre hx hxl, show n - (i + 1) = k by omega])
              clear hat hx hnx hxl hk
              go_wp2_with fail
              refine HN2.out.mono ?_
              rintro e w4 ⟨rfl, ha, ho⟩
              have HA4 := Lib.hid ha
              have HR4 := Lib.hid (HRow.out.only hlt.1 ho)
              have HO4 := Lib.hid (HOn.out.trans ho)
              clear ha ho
              go_wp2_with fail
              refine (takeNum_ok x _).mono ?_
              rintro e w5 ⟨rfl, rfl⟩
              go_wp2_with fail
              refine (HX.out _).mono ?_
              rintro e w5 ⟨rfl, rfl⟩
              go_wp2_with fail
              refine (ask_yes _).mono ?_
              rintro e w5 ⟨rfl, rfl⟩
              have hll : (pre ++ List.replicate (n - i) 0).length = n := by rw [List.length_append, List.length_replicate, HPl.out]; omega
              obtain ⟨⟨z, hcell⟩, hfree⟩ : (∃ z : Int, w5.cell? ⟨g, i, none⟩ = some (.int .u64 z)) ∧ w5.frozen? ⟨g, i, none⟩ = false := ⟨⟨_, (nrow_at HR4.out hll i (by omega)).1⟩, (nrow_at HR4.out hll i (by omega)).2⟩
              have hset := nrow_set HR4.out hll i x
              rw [set_next pre n i x HPl.out hlt2] at hset
              have hos : OnlyS (fun b => b = g) w5 (w5.setCell ⟨g, i, none⟩ (.int .u64 (x : Int))) := (OnlyS.refl (fun b => b = g) _).setCell (p := ⟨g, i, none⟩) (fun _ => rfl) _
              have HRs := Lib.hid hset
              have HAs := Lib.hid (HA4.out.only hos (fun b hb e => by omega) (by omega))
              have HOs := Lib.hid (HO4.out.setNew (p := ⟨g, i, none⟩) hgw (.int .u64 (x : Int)))
              clear hll hset hos
              go_wp2
              go_round
              case rel => exact ⟨i + 1, x, pre ++ [x], q2, by omega, by go_num, rfl, by rw [List.length_append, HPl.out]; rfl, HRs.out, HAs.out, HOs.out, HE2.out⟩
              case measure => simp [intOf]; omega
            · rw [decide_eq_false hxl] at hnx
              have HX := Lib.hid hnx
              have HE2 := Lib.hid (show gMem r = .error 3 by rw [HEq.out, hk, gIds_bad hx hxl]; rfl)
              clear hat hx hnx hxl hk
              go_wp2_with fail
              refine HN2.out.mono ?_
              rintro e w4 ⟨rfl, ha, ho⟩
              have HO4 := Lib.hid (HOn.out.trans ho)
              clear ha ho
              go_wp2_with fail
              refine (takeNum_ok x _).mono ?_
              rintro e w5 ⟨rfl, rfl⟩
              go_wp2_with fail
              refine (HX.out _).mono ?_
              rintro e w5 ⟨rfl, rfl⟩
              go_wp2_with fail
              refine (ask_no _).mono ?_
              rintro e w5 ⟨rfl, rfl⟩
              refine ⟨rfl, HO4.out, ?_⟩
              rw [HE2.out]
        · obtain rfl : i = n := by omega
          have e := HEq.out
          have hr := HRow.out
          rw [Nat.sub_self] at e hr
          simp only [gIds, joinR, List.append_nil] at e
          rw [List.replicate_zero, List.append_nil] at hr
          have HE2 := Lib.hid e
          have HR2 := Lib.hid hr
          clear e hr hat
          go_wp2
          go_ret
          refine ⟨HOn.out, ?_⟩
          rw [HE2.out]
          exact ⟨_, rfl, HR2.out, HAt.out⟩
    · have hct := fun W => isCount_any n W hn64
      rw [decide_eq_false h17] at hct
      have HE := Lib.hid (show gMem r = .error 3 by simp only [gMem, hn, if_neg h17])
      have HT := Lib.hid hct
      clear h hn hct h17
      go_enter Try.func113, Try.ntmps113
      go_wp2_with fail
      refine HN.out.mono ?_
      rintro e w1 ⟨rfl, ha, ho⟩
      have HO := Lib.hid ho
      clear ha ho
      go_wp2_with fail
      refine (takeNum_ok n _).mono ?_
      rintro e w2 ⟨rfl, rfl⟩
      go_wp2_with fail
      refine (HT.out _).mono ?_
      rintro e w2 ⟨rfl, rfl⟩
      go_wp2_with fail
      refine (ask_no _).mono ?_
      rintro e w2 ⟨rfl, rfl⟩
      refine ⟨rfl, HO.out, ?_⟩
      rw [HE.out]

end Go.Proofs.Ytgbhfolbkgibfaa

/- slices.Grow of the nil slice, and slices.Concat. -/
namespace Go.Proofs.Ytgbhfolbkgibfaa
set_option maxRecDepth 20000
open Go.RowKit BinMath CmdMath

/-- append in a walk, of a make. -/
theorem wpList_append_by2 {P : Program} {w : World} {ops : Array Oper} {rest : List Oper} {o : Oper} {a : Act} {Q : Exit → Act → World → Prop} (hgd : o.guard = none) (s x : Operand) (t t2 : TypeId)
    (ho : o.op = .call { callee := .builtin .append, args := #[s, x], argTypes := #[t, t2] }) (v y : Value) (hs : a.eval s = v) (hx : a.eval x = y) (R : Value → World → Prop)
    (hr : ∃ v' w', (Builtin.append_ #[t, t2] o.type #[v, y]).run P w = .ok v' w' ∧ R v' w')
    (h : ∀ v' w', R v' w' → wpList P ops Q rest (a.put o.dst v') w') : wpList P ops Q (o :: rest) a w := by
  obtain ⟨v', w', hrun, hR⟩ := hr
  refine wpList_plain hgd fun K hK => ?_
  unfold Oper.wp
  simp [execOp, ho, resolve, invoke, builtin, hs, hx, hrun, Result.andThen]
  exact hK _ _ (h v' w' hR)

/-- append([]byte(nil), make([]byte, k)...). -/
theorem append_none_zeros (w : World) (k : Nat) (h0 : 0 < k) (hk : k ≤ 1099511627776) :
    ∃ v' w', (Builtin.append_ #[34, 3] 34 #[.slice none 0 0, .int .i64 (k : Int)]).run Try.prog w = .ok v' w' ∧ ∃ g cap cur, v' = .slice (some ⟨g, 0, none⟩) k cap ∧ w.heap.size ≤ g ∧ w'.heap[g]? = some (.cells cur 5 (0, 0)) ∧ cap ≤ maxLen ∧ k ≤ cap ∧ cur.size = cap ∧ Below w.heap.size w w' := by
  obtain ⟨i0, hi, hz0, hz1, hz2⟩ := info_parts info_byte
  have hr := Lib.run_append_nil_zeros (P := Try.prog) w 34 3 34 5 i0 (.int .u8 0) .i64 .i64 Try.underlying34 Try.underlying3 hi hz0 k (by omega) (by omega) (by omega) (by rw [hz2]; omega)
  have hge := grownCap_ge w k 0 5
  have hle := grownCap_le_maxLen w k 0 5 (by unfold maxLen; omega)
  refine ⟨_, _, hr, w.heap.size, _, _, rfl, Nat.le_refl _, heap_alloc_new w.drew _, hle, hge, ?_, (Below.refl _ _).drew.alloc (Nat.le_refl _) _⟩
  simp [size_zeroCells, Value.cells]
  omega

set_option maxHeartbeats 1000000 in
theorem grow_any (n : Nat) (w : World) (hn : n ≤ 1099511627776) :
    Calls Try.prog 92 #[.slice none 0 0, .int .i64 (n : Int)] w fun e w' => ∃ v', e = .returned v' ∧ Row w' w.heap.size v' [] ∧ Below w.heap.size w w' := by
  by_cases h0 : n = 0
  · subst h0
    go_enter Try.func92, Try.ntmps92
    go_wp2
    go_ret
    exact ⟨_, rfl, World.ownsRow_nil _ _ _ _, Below.refl _ _⟩
  · have A1 := Lib.hid (append_none_zeros w n (by omega) hn)
    have h1 : ¬ ((n : Int) < 0) := by omega
    have h2 : (0 : Int) < (n : Int) := by omega
    clear h0
    go_enter Try.func92, Try.ntmps92
    go_wp2_with (at_builtin; refine wpList_append_by2 rfl _ _ 34 3 rfl _ _ rfl rfl _ A1.out ?_; rintro x w2 ⟨g, cap, cur, rfl, hg1, hg2, hg3, hg4, hg5, hg6⟩; (have H2 := Lib.hid hg2); (have H5 := Lib.hid hg5); (have H6 := Lib.hid hg6); clear hg2 hg5 hg6)
    go_ret
    refine ⟨_, rfl, ⟨by simp, .inr ⟨g, cap, cur, rfl, hg1, H2.out, Nat.zero_le _, hg3, by simpa using H5.out, by simp⟩⟩, H6.out⟩

/-- A list of texts in cells of a row. -/
def Parts (w : World) (g : Nat) (ls : List (List UInt8)) : Prop := ∀ i (h : i < ls.length), ∃ v, w.cell? ⟨g, i, none⟩ = some v ∧ Bys w v ls[i]

theorem Parts.below {w w' : World} {g : Nat} {ls : List (List UInt8)} (h : Parts w g ls) {B : Nat} (hB : w.heap.size ≤ B) (hb : Below B w w') : Parts w' g ls := fun i hi => by
  obtain ⟨v, hc, hv⟩ := h i hi
  exact ⟨v, by rw [hb.cell (p := ⟨g, i, none⟩) (Nat.lt_of_lt_of_le (World.block_lt_of_cell? w _ hc) hB)]; exact hc, hv.below hB hb⟩

/-- How many bytes the first i have. -/
def lenTo (ls : List (List UInt8)) (i : Nat) : Nat := (ls.take i).flatten.length

theorem take_step (ls : List (List UInt8)) (i : Nat) (hi : i < ls.length) : (ls.take (i + 1)).flatten = (ls.take i).flatten ++ ls[i] := by
  rw [List.take_add_one, List.getElem?_eq_getElem hi]
  simp only [Option.toList_some, List.flatten_append, List.flatten_cons, List.flatten_nil, List.append_nil]

theorem lenTo_step (ls : List (List UInt8)) (i : Nat) (hi : i < ls.length) : lenTo ls (i + 1) = lenTo ls i + ls[i].length := by
  unfold lenTo
  rw [take_step ls i hi, List.length_append]

theorem lenTo_le (ls : List (List UInt8)) (i : Nat) : lenTo ls i ≤ ls.flatten.length := by
  unfold lenTo
  have h := congrArg List.flatten (List.take_append_drop i ls)
  rw [List.flatten_append] at h
  rw [← h, List.length_append]
  omega

set_option maxHeartbeats 2000000 in
theorem concat_any (g n : Nat) (ls : List (List UInt8)) (w : World) (h : Parts w g ls) (hn : n = ls.length) (hn4 : n ≤ 1099511627776) (hl : ls.flatten.length ≤ 1099511627776) :
    Calls Try.prog 89 #[.slice (some ⟨g, 0, none⟩) n n] w fun e w' => ∃ v', e = .returned v' ∧ Row w' w.heap.size v' ls.flatten ∧ Below w.heap.size w w' := by
  have HN := Lib.hid hn
  have HP := Lib.hid h
  obtain ⟨T, hT⟩ : ∃ T, T = ls.flatten.length := ⟨_, rfl⟩
  have hle := fun i => lenTo_le ls i
  rw [← hT] at hl hle
  have HL := Lib.hid hle
  have HT := Lib.hid hT
  have hz : lenTo ls 0 = 0 := by simp [lenTo]
  have HZ := Lib.hid hz
  clear hn h hle hT hz
  go_enter Try.func89, Try.ntmps89
  go_wp2
  go_loop [3, 11] (fun s3 s11 => ∃ i s : Nat, i ≤ n ∧ s11 = .int .i64 (i : Int) ∧ s3 = .int .i64 (s : Int) ∧ s = lenTo ls i) (fun _ s11 => n - (intOf s11).toNat)
  case atStart => exact ⟨0, 0, by omega, rfl, rfl, HZ.out.symm⟩
  case round =>
    obtain ⟨i, s, hi, rfl, rfl, hs⟩ := hrel
    have hsl : s ≤ T := by rw [hs]; exact HL.out i
    have HS := Lib.hid hs
    clear hs
    by_cases hlt : i < n
    · have hil : i < ls.length := by have := HN.out; omega
      obtain ⟨v, hc, hv⟩ := HP.out i hil
      obtain ⟨a, cap, rfl⟩ := hv.shape
      have hst := lenTo_step ls i hil
      have hlu := HL.out (i + 1)
      obtain ⟨m, hm⟩ : ∃ m, m = ls[i].length := ⟨_, rfl⟩
      rw [← hm] at hc hst
      rw [← HS.out] at hst
      rw [hst] at hlu
      have HST := Lib.hid hst
      clear hst hv hm hil
      go_wp2
      go_round
      case rel => exact ⟨i + 1, s + m, by omega, by go_num, by go_num, HST.out.symm⟩
      case measure => simp [intOf]; omega
    · obtain rfl : i = n := by omega
      have HG := Lib.hid (grow_any s w (by omega))
      go_wp2_with fail
      refine HG.out.mono ?_
      rintro e w1 ⟨v1, rfl, hr1, hb1⟩
      have HR1 := Lib.hid hr1
      have HB1 := Lib.hid hb1
      clear hr1 hb1 HG hlt
      go_wp2
      go_loopw [6, 27] (fun s6 s27 wr => ∃ j : Nat, j ≤ i ∧ s27 = .int .i64 (j : Int) ∧ Row wr w.heap.size s6 (ls.take j).flatten ∧ Below w.heap.size w wr) (fun _ s27 _ => i - (intOf s27).toNat)
      case atStart => exact ⟨0, by omega, rfl, by simpa using HR1.out, HB1.out⟩
      case round =>
        obtain ⟨j, hj, rfl, hrow, hbw⟩ := hrel
        by_cases hlj : j < i
        · have hjl : j < ls.length := by have := HN.out; omega
          obtain ⟨v, hc, hv⟩ := HP.out j hjl
          have hlen := HL.out (j + 1)
          have hst := take_step ls j hjl
          unfold lenTo at hlen
          rw [hst, List.length_append] at hlen
          have hc1 : wr.cell? ⟨g, j, none⟩ = some v := by rw [hbw.cell (p := ⟨g, j, none⟩) (World.block_lt_of_cell? w _ hc)]; exact hc
          obtain ⟨x0, hx0⟩ : ∃ x0, x0 = ls[j] := ⟨_, rfl⟩
          rw [← hx0] at hv hlen hst
          have A2 := append_bys hbw.size hrow (hv.below (Nat.le_refl _) hbw) (by omega)
          have H2 := Lib.hid A2
          have HST := Lib.hid hst
          have HR := Lib.hid hrow
          have HB := Lib.hid hbw
          clear hc hv hlen hst A2 hrow hbw hx0 hjl
          go_wp2_with (at_builtin; refine wpList_append_by rfl _ _ 34 rfl _ _ rfl rfl _ H2.out ?_; rintro x w2 ⟨hr2, hb2⟩; (have HR2 := Lib.hid hr2); (have HB2 := Lib.hid hb2); clear hr2 hb2)
          go_round
          case rel => exact ⟨j + 1, by omega, by go_num, by rw [HST.out]; exact HR2.out, HB.out.grown HB2.out HB.out.size fun k hk => (World.ownsRow.lt HR.out k hk).1⟩
          case measure => simp [intOf]; omega
        · have e : ls.take j = ls := List.take_of_length_le (by have := HN.out; omega)
          rw [e] at hrow
          have HR := Lib.hid hrow
          have HB := Lib.hid hbw
          clear hrow hbw
          go_wp2
          go_ret
          exact ⟨_, rfl, HR.out, HB.out⟩

end Go.Proofs.Ytgbhfolbkgibfaa

/- Members, and lists that are held against each other. -/
namespace Go.Proofs.Ytgbhfolbkgibfaa
set_option maxRecDepth 20000
open Go.RowKit BinMath CmdMath

theorem rises_step {l : List Nat} {a i : Nat} (hi : i < l.length) : rises a (l.drop i) = (decide (a < l[i] ∧ l[i] ≤ 7) && rises l[i] (l.drop (i + 1))) := by
  rw [List.drop_eq_getElem_cons hi, rises]

set_option maxHeartbeats 1000000 in
theorem members_any (v : Value) (l : List Nat) (w : World) (hv : Nums w v l) (hl : l.length ≤ 140737488351232) (hb : ∀ x ∈ l, x < 18446744073709551616) :
    Calls Try.prog 61 #[v] w fun e w' => e = .returned (.bool (memOk l)) ∧ w' = w := by
  obtain ⟨a, cap, rfl⟩ := hv.shape
  obtain ⟨-, hlc, hc⟩ := hv.at
  obtain ⟨n, hn⟩ : ∃ n, n = l.length := ⟨_, rfl⟩
  have hcv := conv_len n (by omega)
  have hct := fun W => isCount_any n W (by omega)
  by_cases h17 : 1 ≤ n ∧ n ≤ 7
  · have hne : l.isEmpty = false := by cases l with
      | nil => simp at hn; omega
      | cons x r => rfl
    have he : memOk l = rises 0 l := by simp [memOk, hne]
    have h0 : rises 0 l = rises 0 (l.drop 0) := rfl
    rw [he]
    rw [decide_eq_true h17] at hct
    rw [← hn] at hlc ⊢
    have HC := Lib.hid hc
    have HB := Lib.hid hb
    have HN := Lib.hid hn
    have H0 := Lib.hid h0
    have HT := Lib.hid hct
    have hn7 := h17.2
    clear hc hb hn h0 hct h17 hne he hv hl
    go_enter Try.func61, Try.ntmps61
    go_wp2_with fail
    refine (HT.out _).mono ?_
    rintro e w' ⟨rfl, rfl⟩
    go_wp2
    go_loop [3, 13] (fun s3 s13 => ∃ i m : Nat, i ≤ n ∧ s13 = .int .i64 (i : Int) ∧ s3 = .int .u64 (m : Int) ∧ m < 18446744073709551616 ∧ rises 0 l = rises m (l.drop i)) (fun _ s13 => n - (intOf s13).toNat)
    case atStart => exact ⟨0, 0, by omega, rfl, rfl, by omega, H0.out⟩
    case round =>
      obtain ⟨i, m, hi, rfl, rfl, hm, hr⟩ := hrel
      have HR := Lib.hid hr
      clear hr
      by_cases hlt : i < n
      · have hil : i < l.length := by have := HN.out; omega
        obtain ⟨ad, rfl, hcell⟩ := HC.out i hil
        have hy := HB.out l[i] (List.getElem_mem _)
        have hst := rises_step (a := m) hil
        obtain ⟨y, hye⟩ : ∃ y, y = l[i] := ⟨_, rfl⟩
        rw [← hye] at hcell hy hst
        have HS := Lib.hid hst
        clear hst hye hil
        have hnx := fun W => isNext_any m y W hy
        by_cases hyl : m < y ∧ y ≤ 7
        · rw [decide_eq_true hyl] at hnx
          have HX := Lib.hid hnx
          have HY := Lib.hid hyl
          clear hnx hyl
          go_wp2_with fail
          refine (HX.out _).mono ?_
          rintro e w' ⟨rfl, rfl⟩
          go_wp2
          go_round
          case rel => exact ⟨i + 1, y, by omega, by go_num, rfl, hy, by rw [HR.out, HS.out, decide_eq_true HY.out]; rfl⟩
          case measure => simp [intOf]; omega
        · rw [decide_eq_false hyl] at hnx
          have HX := Lib.hid hnx
          have HY := Lib.hid hyl
          clear hnx hyl
          go_wp2_with fail
          refine (HX.out _).mono ?_
          rintro e w' ⟨rfl, rfl⟩
          go_wp2
          go_ret
          rw [HR.out, HS.out, decide_eq_false HY.out]
          exact ⟨rfl, rfl⟩
      · go_wp2
        go_ret
        have e : l.drop i = [] := List.drop_eq_nil_of_le (by have := HN.out; omega)
        rw [HR.out, e]
        exact ⟨rfl, rfl⟩
  · have he : memOk l = false := by
      cases h : memOk l with
      | false => rfl
      | true => exact absurd (hn ▸ memOk_len h) h17
    rw [he]
    rw [decide_eq_false h17] at hct
    rw [← hn]
    have HT := Lib.hid hct
    have HN := Lib.hid hn
    have hn47 : n ≤ 140737488351232 := by omega
    clear hc hb hct he h17 hv hl hlc hn
    go_enter Try.func61, Try.ntmps61
    go_wp2_with fail
    refine (HT.out _).mono ?_
    rintro e w' ⟨rfl, rfl⟩
    go_wp2
    go_ret
    exact ⟨rfl, rfl⟩

set_option maxHeartbeats 400000 in
theorem equal_any (va vb : Value) (la lb : List UInt8) (w : World) (ha : Bys w va la) (hb : Bys w vb lb) :
    Calls Try.prog 57 #[va, vb] w fun e w' => e = .returned (.bool (decide (la = lb))) ∧ w' = w := by
  have c1 := conv_bys ha
  have c2 := conv_bys hb
  obtain ⟨X, hX⟩ : ∃ X : ByteArray, X = ⟨la.toArray⟩ := ⟨_, rfl⟩
  obtain ⟨Y, hY⟩ : ∃ Y : ByteArray, Y = ⟨lb.toArray⟩ := ⟨_, rfl⟩
  rw [← hX] at c1
  rw [← hY] at c2
  have he : decide (la = lb) = (X.toList == Y.toList) := by
    rw [hX, hY, ByteArray.toList_mk, ByteArray.toList_mk]
    by_cases h : la = lb
    · rw [decide_eq_true h, h]; exact (beq_self_eq_true lb).symm
    · rw [decide_eq_false h]; exact (beq_false_of_ne h).symm
  rw [he]
  clear ha hb hX hY he
  go_enter Try.func57, Try.ntmps57
  go_wp2
  go_ret
  exact ⟨rfl, rfl⟩

/-- Lists that are one up to i. -/
def eqTo (a b : List Nat) (i : Nat) : Prop := ∀ j (ha : j < a.length) (hb : j < b.length), j < i → a[j] = b[j]

theorem eqTo_step {a b : List Nat} {i : Nat} (h : eqTo a b i) (ha : i < a.length) (hb : i < b.length) (he : a[i] = b[i]) : eqTo a b (i + 1) := fun j h1 h2 h3 => by
  by_cases hj : j = i
  · subst hj; exact he
  · exact h j h1 h2 (by omega)

theorem eqTo_all {a b : List Nat} (hl : a.length = b.length) (h : eqTo a b a.length) : a = b := List.ext_getElem hl fun j h1 h2 => h j h1 h2 h1

set_option maxHeartbeats 1000000 in
theorem eqNums_any (va vb : Value) (la lb : List Nat) (w : World) (ha : Nums w va la) (hb : Nums w vb lb) (hl : la.length ≤ 140737488351232) :
    Calls Try.prog 56 #[va, vb] w fun e w' => e = .returned (.bool (decide (la = lb))) ∧ ∃ n, w' = w.drewN n := by
  obtain ⟨a, ca, rfl⟩ := ha.shape
  obtain ⟨b, cb, rfl⟩ := hb.shape
  obtain ⟨-, hac, hA⟩ := ha.at
  obtain ⟨-, hbc, hB⟩ := hb.at
  obtain ⟨n, hn⟩ : ∃ n, n = la.length := ⟨_, rfl⟩
  by_cases hlen : la.length = lb.length
  · have hm : n = lb.length := by omega
    rw [← hn] at hac hl
    rw [← hm] at hbc
    rw [← hn, ← hm]
    have HA := Lib.hid hA
    have HB := Lib.hid hB
    have HN := Lib.hid hn
    have HM := Lib.hid hm
    clear hA hB hn hm hlen ha hb
    go_enter Try.func56, Try.ntmps56
    go_wp2
    go_loopw [13] (fun s13 W => ∃ i k : Nat, i ≤ n ∧ s13 = .int .i64 (i : Int) ∧ eqTo la lb i ∧ W = w.drewN k) (fun s13 _ => n - (intOf s13).toNat)
    case atStart => exact ⟨0, 0, by omega, rfl, fun j _ _ h => absurd h (by omega), rfl⟩
    case round =>
      obtain ⟨i, k, hi, rfl, he, rfl⟩ := hrel
      have HE := Lib.hid he
      clear he
      by_cases hlt : i < n
      · have hil : i < la.length := by have := HN.out; omega
        have hjl : i < lb.length := by have := HM.out; omega
        obtain ⟨ad, rfl, hca⟩ := HA.out i hil
        obtain ⟨bd, rfl, hcb⟩ := HB.out i hjl
        have hst := fun h => eqTo_step HE.out hil hjl h
        have hno : la[i] ≠ lb[i] → la ≠ lb := fun h e => h (by subst e; rfl)
        obtain ⟨x, hx⟩ : ∃ x, x = la[i] := ⟨_, rfl⟩
        obtain ⟨y, hy⟩ : ∃ y, y = lb[i] := ⟨_, rfl⟩
        rw [← hx, ← hy] at hst hno
        rw [← hx] at hca
        rw [← hy] at hcb
        have HS := Lib.hid hst
        have HO := Lib.hid hno
        clear hst hno hx hy hil hjl
        by_cases hxy : x = y
        · subst hxy
          go_wp2
          go_quiet (fail)
          go_wp2
          go_round
          case rel => exact ⟨i + 1, _, by omega, by go_num, HS.out trivial, rfl⟩
          case measure => simp [intOf]; omega
        · have hq : ((x : Int) != (y : Int)) = true := by simp; omega
          have HXY := Lib.hid hxy
          clear hxy
          go_wp2
          go_quiet (fail)
          go_wp2
          go_ret
          rw [decide_eq_false (HO.out HXY.out)]
          exact ⟨rfl, _, World.drewN_drewN ..⟩
      · go_wp2
        go_ret
        have e : la = lb := eqTo_all (by rw [← HN.out, ← HM.out]) (by rw [← HN.out, ← show i = n by omega]; exact HE.out)
        rw [decide_eq_true e]
        exact ⟨rfl, _, rfl⟩
  · have hq : ((la.length : Int) != (lb.length : Int)) = true := by simp; omega
    have hne : la ≠ lb := fun e => hlen (by rw [e])
    rw [decide_eq_false hne]
    obtain ⟨m, hm⟩ : ∃ m, m = lb.length := ⟨_, rfl⟩
    rw [← hn, ← hm] at hq
    rw [← hn, ← hm]
    clear hA hB hn hm hlen ha hb hne hac hbc
    go_enter Try.func56, Try.ntmps56
    go_wp2
    go_ret
    exact ⟨rfl, 0, rfl⟩

set_option maxHeartbeats 1000000 in
theorem refNums_any (va vb : Value) (la lb : List Nat) (w : World) (ha : Nums w va la) (hb : Nums w vb lb) (hl : la.length ≤ 140737488351232) :
    Calls Try.prog 34 #[va, vb] w fun e w' => e = .returned (.bool (decide (la = lb))) ∧ ∃ n, w' = w.drewN n := by
  obtain ⟨a, ca, rfl⟩ := ha.shape
  obtain ⟨b, cb, rfl⟩ := hb.shape
  obtain ⟨-, hac, hA⟩ := ha.at
  obtain ⟨-, hbc, hB⟩ := hb.at
  obtain ⟨n, hn⟩ : ∃ n, n = la.length := ⟨_, rfl⟩
  by_cases hlen : la.length = lb.length
  · have hm : n = lb.length := by omega
    rw [← hn] at hac hl
    rw [← hm] at hbc
    rw [← hn, ← hm]
    have HA := Lib.hid hA
    have HB := Lib.hid hB
    have HN := Lib.hid hn
    have HM := Lib.hid hm
    clear hA hB hn hm hlen ha hb
    go_enter Try.func34, Try.ntmps34
    go_wp2
    go_loopw [5] (fun s5 W => ∃ i k : Nat, i ≤ n ∧ s5 = .int .i64 (i : Int) ∧ eqTo la lb i ∧ W = w.drewN k) (fun s5 _ => n - (intOf s5).toNat)
    case atStart => exact ⟨0, 0, by omega, rfl, fun j _ _ h => absurd h (by omega), rfl⟩
    case round =>
      obtain ⟨i, k, hi, rfl, he, rfl⟩ := hrel
      have HE := Lib.hid he
      clear he
      by_cases hlt : i < n
      · have hil : i < la.length := by have := HN.out; omega
        have hjl : i < lb.length := by have := HM.out; omega
        obtain ⟨ad, rfl, hca⟩ := HA.out i hil
        obtain ⟨bd, rfl, hcb⟩ := HB.out i hjl
        have hst := fun h => eqTo_step HE.out hil hjl h
        have hno : la[i] ≠ lb[i] → la ≠ lb := fun h e => h (by subst e; rfl)
        obtain ⟨x, hx⟩ : ∃ x, x = la[i] := ⟨_, rfl⟩
        obtain ⟨y, hy⟩ : ∃ y, y = lb[i] := ⟨_, rfl⟩
        rw [← hx, ← hy] at hst hno
        rw [← hx] at hca
        rw [← hy] at hcb
        have HS := Lib.hid hst
        have HO := Lib.hid hno
        clear hst hno hx hy hil hjl
        by_cases hxy : x = y
        · subst hxy
          go_wp2
          go_quiet (fail)
          go_wp2
          go_round
          case rel => exact ⟨i + 1, _, by omega, by go_num, HS.out trivial, rfl⟩
          case measure => simp [intOf]; omega
        · have hq : ((x : Int) != (y : Int)) = true := by simp; omega
          have HXY := Lib.hid hxy
          clear hxy
          go_wp2
          go_quiet (fail)
          go_wp2
          go_ret
          rw [decide_eq_false (HO.out HXY.out)]
          exact ⟨rfl, _, World.drewN_drewN ..⟩
      · go_wp2
        go_ret
        have e : la = lb := eqTo_all (by rw [← HN.out, ← HM.out]) (by rw [← HN.out, ← show i = n by omega]; exact HE.out)
        rw [decide_eq_true e]
        exact ⟨rfl, _, rfl⟩
  · have hq : ((la.length : Int) != (lb.length : Int)) = true := by simp; omega
    have hne : la ≠ lb := fun e => hlen (by rw [e])
    rw [decide_eq_false hne]
    obtain ⟨m, hm⟩ : ∃ m, m = lb.length := ⟨_, rfl⟩
    rw [← hn, ← hm] at hq
    rw [← hn, ← hm]
    clear hA hB hn hm hlen ha hb hne hac hbc
    go_enter Try.func34, Try.ntmps34
    go_wp2
    go_ret
    exact ⟨rfl, 0, rfl⟩

end Go.Proofs.Ytgbhfolbkgibfaa

