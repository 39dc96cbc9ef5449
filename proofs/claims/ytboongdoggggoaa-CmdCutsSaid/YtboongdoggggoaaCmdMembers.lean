/- The members, read by the program. -/
import Derived.Test.YtboongdoggggoaaCmdRead
namespace Go.Proofs.Ytboongdoggggoaa
set_option maxRecDepth 20000
open Go.RowKit BinMath CmdMath
variable {G : Nat}

theorem NRow.to {w w' : World} {B : Nat} {v : Value} {l : List Nat} (h : NRow w B v l) (hk : ∀ k, v.ownBlock = some k → w'.heap[k]? = w.heap[k]?) : NRow w' B v l := ownsRow_to h hk

theorem NRow.only {w w' : World} {B R : Nat} {v : Value} {l : List Nat} (h : NRow w B v l) (hR : R < B) (ho : Only R w w') : NRow w' B v l :=
  h.to fun k hk => by
    have := World.ownsRow.lt h k hk
    exact ho.block k this.2 (by omega)

theorem NRow.keep {w w' : World} {B : Nat} {v : Value} {l : List Nat} (h : NRow w B v l) (hb : Below w.heap.size w w') : NRow w' B v l := ownsRow_keep h hb

theorem made_nums (n : Nat) : (madeCells (Value.int .u64 0).cells (n * 1)).toList = (List.replicate n 0).map uv := by
  apply List.ext_getElem
  · simp [madeCells, Value.cells]
  · intro i h1 h2
    simp [madeCells, Value.cells, uv, Nat.mod_one]

theorem made_num_row {w : World} {B g n : Nat} (h : w.ownsRow B 33 1 (.slice (some ⟨g, 0, none⟩) n n) n (madeCells (Value.int .u64 0).cells (n * 1)).toList) : NRow w B (.slice (some ⟨g, 0, none⟩) n n) (List.replicate n 0) := by
  unfold NRow
  rw [List.length_replicate, ← made_nums]
  exact h

theorem nrow_set {w : World} {B g n c : Nat} {l : List Nat} (h : NRow w B (.slice (some ⟨g, 0, none⟩) n c) l) (hn : l.length = n) (j x : Nat) : NRow (w.setCell ⟨g, j, none⟩ (.int .u64 (x : Int))) B (.slice (some ⟨g, 0, none⟩) n c) (l.set j x) := by
  subst hn
  have h1 := (World.ownsRow.stored h j (uv x)).1
  unfold NRow
  rw [List.length_set, List.map_set]
  exact h1

theorem nrow_at {w : World} {B g n c : Nat} {l : List Nat} (h : NRow w B (.slice (some ⟨g, 0, none⟩) n c) l) (hn : l.length = n) (i : Nat) (hi : i < l.length) : w.cell? ⟨g, i, none⟩ = some (.int .u64 (l[i] : Int)) ∧ w.frozen? ⟨g, i, none⟩ = false := by
  subst hn
  have h1 := World.ownsRow.cellAt h i (by omega)
  refine ⟨?_, World.ownsRow.frozenAt h i⟩
  rw [h1]
  simp [hi, uv]

theorem At.only {w w' : World} {R : Nat} {l r : List UInt8} {S : Nat → Prop} (h : At w R G l r) (ho : OnlyS S w w') (hS : ∀ b, b < G → ¬ S b) (hSR : ¬ S R) : At w' R G l r := by
  obtain ⟨k, hk, e⟩ := h
  exact ⟨k, hk.only ho hS hSR, e⟩

theorem At.below {w w' : World} {R : Nat} {l r : List UInt8} (h : At w R G l r) (hb : Below w.heap.size w w') : At w' R G l r := by
  obtain ⟨k, hk, e⟩ := h
  exact ⟨k, hk.below hb, e⟩

theorem At.lt {w : World} {R : Nat} {l r : List UInt8} (h : At w R G l r) : R < w.heap.size ∧ G ≤ w.heap.size := by
  obtain ⟨k, hk, e⟩ := h
  have := hk.facts
  exact ⟨this.1, this.2.2.2⟩

/-- How the reading of the members ends. -/
def MemEnd (G R : Nat) (l r : List UInt8) (w : World) (e : Ending) (w' : World) : Prop :=
  Only R w w' ∧ match gMem r with
    | .ok (m, q) => ∃ v, e = .returned v ∧ NRow w' w.heap.size v m ∧ At w' R G l q
    | .error c => e = .panicked (lostC c)

theorem set_next (pre : List Nat) (n i x : Nat) (hp : pre.length = i) (hi : i < n) : (pre ++ List.replicate (n - i) 0).set i x = (pre ++ [x]) ++ List.replicate (n - (i + 1)) 0 := by
  subst hp
  rw [List.set_append_right _ _ (Nat.le_refl _), Nat.sub_self, show n - pre.length = (n - (pre.length + 1)) + 1 by omega, List.replicate_succ]
  simp

/-- What the first ones that were read make of the rest. -/
def joinR (pre : List Nat) : Except Nat (List Nat × List UInt8) → Except Nat (List Nat × List UInt8)
  | .error c => .error c
  | .ok (ids, q) => .ok (pre ++ ids, q)

theorem gIds_none {n last c : Nat} {r : List UInt8} (h : gNum r = .error c) : gIds (n + 1) last r = .error c := by
  simp only [gIds, h]

theorem gIds_bad {n last x : Nat} {r q : List UInt8} (h : gNum r = .ok (x, q)) (hx : ¬ (last < x ∧ x ≤ 7)) : gIds (n + 1) last r = .error 3 := by
  simp only [gIds, h, if_neg hx]

theorem gIds_next {n last x : Nat} {r q : List UInt8} (pre : List Nat) (h : gNum r = .ok (x, q)) (hx : last < x ∧ x ≤ 7) : joinR pre (gIds (n + 1) last r) = joinR (pre ++ [x]) (gIds n x q) := by
  simp only [gIds, h, if_pos hx]
  cases gIds n x q with
  | error c => rfl
  | ok p => obtain ⟨ids, q'⟩ := p; simp [joinR]

theorem gMem_ok {n : Nat} {r q : List UInt8} (h : gNum r = .ok (n, q)) (hn : 1 ≤ n ∧ n ≤ 7) : gMem r = joinR [] (gIds n 0 q) := by
  simp only [gMem, h, if_pos hn]
  cases gIds n 0 q with
  | error c => rfl
  | ok p => obtain ⟨ids, q'⟩ := p; simp [joinR]

set_option maxHeartbeats 4000000 in
theorem rmembers_any {R : Nat} {l r : List UInt8} {w : World} (h : At w R G l r) :
    Calls Try.prog 118 #[.pointer (some ⟨R, 0, none⟩)] w (MemEnd G R l r w) := by
  obtain ⟨i0, hi, hz0, hz1, hz2⟩ := info_parts info_num
  have hlt := h.lt
  cases hn : gNum r with
  | error c =>
    have hc := gNum_err hn
    have e : gMem r = .error c := by simp only [gMem, hn]
    have HN := Lib.hid (readNum_bad h hn)
    have HE := Lib.hid e
    have HT := Lib.hid (fun w => takeNum_bad 0 c w (by omega))
    clear h hn hc e
    go_enter Try.func118, Try.ntmps118
    go_wp2_with fail
    refine HN.out.mono ?_
    rintro e w1 ⟨rfl, ho⟩
    have HO := Lib.hid ho
    clear ho
    go_wp2_with fail
    refine (HT.out _).mono ?_
    rintro e w2 ⟨rfl, rfl⟩
    refine ⟨rfl, HO.out, ?_⟩
    rw [HE.out]
  | ok p =>
    obtain ⟨n, q⟩ := p
    have hn64 := (gNum_back hn).1
    have HN := Lib.hid (readNum_ok h hn)
    by_cases h17 : 1 ≤ n ∧ n ≤ 7
    · have e := gMem_ok hn h17
      have hct := fun W => isCount_any n W hn64
      rw [decide_eq_true h17] at hct
      have HE := Lib.hid e
      have HT := Lib.hid hct
      have hn7 := h17.2
      clear h hn e hct h17
      go_enter Try.func118, Try.ntmps118
      go_wp2_with fail
      refine HN.out.mono ?_
      rintro e w1 ⟨rfl, ha, ho⟩
      have HA := Lib.hid ha
      have HO := Lib.hid ho
      clear ha ho
      go_wp2_with fail
      refine (takeNum_ok n _).mono ?_
      rintro e w2 ⟨rfl, rfl⟩
      go_wp2_with fail
      refine (HT.out _).mono ?_
      rintro e w2 ⟨rfl, rfl⟩
      go_wp2_with fail
      refine (ask_yes _).mono ?_
      rintro e w2 ⟨rfl, rfl⟩
      have hsz : w.heap.size ≤ w2.heap.size := HO.out.size
      obtain ⟨g, hg⟩ : ∃ g, g = w2.heap.size := ⟨_, rfl⟩
      go_wp2_with (at_make; refine wpList_make_full _ rfl _ _ 43 rfl w.heap.size 33 i0 (.int .u64 0) 1 Try.underlying43 hi hz0 hz1 _ _ _ _ n rfl rfl rfl rfl (by rw [hz2]; omega) (by unfold maxLen; omega) hsz ?_; intro w3 hown hgrow; (have hb3 := (Below.refl _ w2).grown hgrow (Nat.le_refl _) (by simp)); (have HR3 := Lib.hid (made_num_row hown)); (have HA3 := Lib.hid (HA.out.below hb3)); (have HO3 := Lib.hid (HO.out.trans (Only.of_below hb3))); clear hown hgrow hb3)
      rw [← hg] at HR3 ⊢
      have hgw : w.heap.size ≤ g := by omega
      clear hg
      go_loopw [5, 20] (fun s5 s20 wr => ∃ (i last : Nat) (pre : List Nat) (rr : List UInt8), i ≤ n ∧ s20 = .int .i64 (i : Int) ∧ s5 = .int .u64 (last : Int) ∧ pre.length = i ∧ NRow wr w.heap.size (.slice (some ⟨g, 0, none⟩) n n) (pre ++ List.replicate (n - i) 0) ∧ At wr R G l rr ∧ Only R w wr ∧ gMem r = joinR pre (gIds (n - i) last rr)) (fun _ s20 _ => n - (intOf s20).toNat)
      case atStart => exact ⟨0, 0, [], q, by omega, rfl, rfl, rfl, HR3.out, HA3.out, HO3.out, HE.out⟩
      case round =>
        obtain ⟨i, last, pre, rr, hi, rfl, rfl, hpl, hrow, hat, hon, heq⟩ := hrel
        have HPl := Lib.hid hpl
        have HRow := Lib.hid hrow
        have HAt := Lib.hid hat
        have HOn := Lib.hid hon
        have HEq := Lib.hid heq
        clear hpl hrow hon heq
        by_cases hlt2 : i < n
        · obtain ⟨k, hk⟩ : ∃ k, n - i = k + 1 := ⟨n - i - 1, by omega⟩
          cases hx : gNum rr with
          | error c =>
            have hc := gNum_err hx
            have HN2 := Lib.hid (readNum_bad hat hx)
            have HE2 := Lib.hid (show gMem r = .error c by rw [HEq.out, hk, gIds_none hx]; rfl)
            have HT2 := Lib.hid (fun w => takeNum_bad 0 c w (by omega))
            clear hat hx hc hk
            go_wp2_with fail
            refine HN2.out.mono ?_
            rintro e w4 ⟨rfl, ho⟩
            have HO4 := Lib.hid (HOn.out.trans ho)
            clear ho
            go_wp2_with fail
            refine (HT2.out _).mono ?_
            rintro e w5 ⟨rfl, rfl⟩
            refine ⟨rfl, HO4.out, ?_⟩
            rw [HE2.out]
          | ok p =>
            obtain ⟨x, q2⟩ := p
            have hx64 := (gNum_back hx).1
            have HN2 := Lib.hid (readNum_ok hat hx)
            have hnx := fun W => isNext_any last x W hx64
            by_cases hxl : last < x ∧ x ≤ 7
            · rw [decide_eq_true hxl] at hnx
              have HX := Lib.hid hnx
              have HE2 := Lib.hid (show gMem r = joinR (pre ++ [x]) (gIds (n - (i + 1)) x q2) by rw [HEq.out, hk, gIds_next pre hx hxl, show n - (i + 1) = k by omega])
              clear hat hx hnx hxl hk
              go_wp2_with fail
              refine HN2.out.mono ?_
              rintro e w4 ⟨rfl, ha, ho⟩
              have HA4 := Lib.hid ha
              have HR4 := Lib.hid (HRow.out.only hlt.1 ho)
              have HO4 := Lib.hid (HOn.out.trans ho)
              clear ha ho
              go_wp2_with fail
              refine (takeNum_ok x _).mono ?_
              rintro e w5 ⟨rfl, rfl⟩
              go_wp2_with fail
              refine (HX.out _).mono ?_
              rintro e w5 ⟨rfl, rfl⟩
              go_wp2_with fail
              refine (ask_yes _).mono ?_
              rintro e w5 ⟨rfl, rfl⟩
              have hll : (pre ++ List.replicate (n - i) 0).length = n := by rw [List.length_append, List.length_replicate, HPl.out]; omega
              obtain ⟨⟨z, hcell⟩, hfree⟩ : (∃ z : Int, w5.cell? ⟨g, i, none⟩ = some (.int .u64 z)) ∧ w5.frozen? ⟨g, i, none⟩ = false := ⟨⟨_, (nrow_at HR4.out hll i (by omega)).1⟩, (nrow_at HR4.out hll i (by omega)).2⟩
              have hset := nrow_set HR4.out hll i x
              rw [set_next pre n i x HPl.out hlt2] at hset
              have hos : OnlyS (fun b => b = g) w5 (w5.setCell ⟨g, i, none⟩ (.int .u64 (x : Int))) := (OnlyS.refl (fun b => b = g) _).setCell (p := ⟨g, i, none⟩) (fun _ => rfl) _
              have HRs := Lib.hid hset
              have HAs := Lib.hid (HA4.out.only hos (fun b hb e => by omega) (by omega))
              have HOs := Lib.hid (HO4.out.setNew (p := ⟨g, i, none⟩) hgw (.int .u64 (x : Int)))
              clear hll hset hos
              go_wp2
              go_round
              case rel => exact ⟨i + 1, x, pre ++ [x], q2, by omega, by go_num, rfl, by rw [List.length_append, HPl.out]; rfl, HRs.out, HAs.out, HOs.out, HE2.out⟩
              case measure => simp [intOf]; omega
            · rw [decide_eq_false hxl] at hnx
              have HX := Lib.hid hnx
              have HE2 := Lib.hid (show gMem r = .error 3 by rw [HEq.out, hk, gIds_bad hx hxl]; rfl)
              clear hat hx hnx hxl hk
              go_wp2_with fail
              refine HN2.out.mono ?_
              rintro e w4 ⟨rfl, ha, ho⟩
              have HO4 := Lib.hid (HOn.out.trans ho)
              clear ha ho
              go_wp2_with fail
              refine (takeNum_ok x _).mono ?_
              rintro e w5 ⟨rfl, rfl⟩
              go_wp2_with fail
              refine (HX.out _).mono ?_
              rintro e w5 ⟨rfl, rfl⟩
              go_wp2_with fail
              refine (ask_no _).mono ?_
              rintro e w5 ⟨rfl, rfl⟩
              refine ⟨rfl, HO4.out, ?_⟩
              rw [HE2.out]
        · obtain rfl : i = n := by omega
          have e := HEq.out
          have hr := HRow.out
          rw [Nat.sub_self] at e hr
          simp only [gIds, joinR, List.append_nil] at e
          rw [List.replicate_zero, List.append_nil] at hr
          have HE2 := Lib.hid e
          have HR2 := Lib.hid hr
          clear e hr hat
          go_wp2
          go_ret
          refine ⟨HOn.out, ?_⟩
          rw [HE2.out]
          exact ⟨_, rfl, HR2.out, HAt.out⟩
    · have hct := fun W => isCount_any n W hn64
      rw [decide_eq_false h17] at hct
      have HE := Lib.hid (show gMem r = .error 3 by simp only [gMem, hn, if_neg h17])
      have HT := Lib.hid hct
      clear h hn hct h17
      go_enter Try.func118, Try.ntmps118
      go_wp2_with fail
      refine HN.out.mono ?_
      rintro e w1 ⟨rfl, ha, ho⟩
      have HO := Lib.hid ho
      clear ha ho
      go_wp2_with fail
      refine (takeNum_ok n _).mono ?_
      rintro e w2 ⟨rfl, rfl⟩
      go_wp2_with fail
      refine (HT.out _).mono ?_
      rintro e w2 ⟨rfl, rfl⟩
      go_wp2_with fail
      refine (ask_no _).mono ?_
      rintro e w2 ⟨rfl, rfl⟩
      refine ⟨rfl, HO.out, ?_⟩
      rw [HE.out]

end Go.Proofs.Ytboongdoggggoaa
