/- Joined: NetRefBlock, NetBoth. -/
import Derived.Test.YtgbhfolbkgibfaaLBA
import Derived.Test.YtgbhfolbkgibfaaLAY
import Derived.Test.YtgbhfolbkgibfaaLAP
/- Layer 19's reference: Block. -/
namespace Go.Proofs.Ytgbhfolbkgibfaa
set_option maxRecDepth 20000
open Go.RowKit BinMath NetMath

theorem info_way : (Try.prog.info? 74).map (fun i => (i.zero, i.size, i.bytes)) = some (some (.agg #[.int .u64 0, .int .u64 0]), 2, 16) := by kernel_rfl

/-- Ways in a row of the call's own. -/
def WRow (w : World) (B : Nat) (v : Value) (ws : List (Nat × Nat)) : Prop := w.ownsRow B 74 2 v ws.length (ws.flatMap wayC)

theorem ways_one (ws : List (Nat × Nat)) : ∀ u ∈ ws.flatMap wayC, u.oneCell' = true := by
  intro u hu
  obtain ⟨x, -, hx⟩ := List.mem_flatMap.1 hu
  simp only [wayC, List.mem_cons, List.not_mem_nil, or_false] at hx
  rcases hx with rfl | rfl <;> rfl
theorem ways_at (ws : List (Nat × Nat)) (i : Nat) (x : Nat × Nat) (h : ws[i]? = some x) : (ws.flatMap wayC)[i * 2]? = some (.int .u64 (x.1 : Int)) ∧ (ws.flatMap wayC)[i * 2 + 1]? = some (.int .u64 (x.2 : Int)) := by
  induction ws generalizing i with
  | nil => simp at h
  | cons y r ih =>
    cases i with
    | zero =>
      simp only [List.getElem?_cons_zero, Option.some.injEq] at h
      subst h
      exact ⟨rfl, rfl⟩
    | succ i =>
      rw [List.getElem?_cons_succ] at h
      obtain ⟨h1, h2⟩ := ih i h
      rw [List.flatMap_cons, show (i + 1) * 2 = (wayC y).length + i * 2 by simp only [wayC, List.length_cons, List.length_nil]; omega]
      refine ⟨?_, ?_⟩
      · rw [List.getElem?_append_right (Nat.le_add_right _ _), Nat.add_sub_cancel_left]; exact h1
      · rw [List.getElem?_append_right (by omega), show (wayC y).length + i * 2 + 1 - (wayC y).length = i * 2 + 1 by omega]; exact h2
theorem WRow.ways {w : World} {B : Nat} {v : Value} {ws : List (Nat × Nat)} (h : WRow w B v ws) : Ways w v ws := by
  rcases h.2 with ⟨rfl, h1⟩ | ⟨g, cap, cur, rfl, hB, hg, hn, hm, hs, ht⟩
  · exact .inl ⟨rfl, List.eq_nil_of_length_eq_zero h1⟩
  · refine .inr ⟨⟨g, 0, none⟩, cap, rfl, hn, fun i x hx => ?_⟩
    obtain ⟨h1, h2⟩ := ways_at ws i x hx
    have hi := (List.getElem?_eq_some_iff.1 hx).1
    rw [← ht, List.getElem?_take, if_pos (by omega), Array.getElem?_toList] at h1 h2
    have hb := show Blk w g 74 cur from hg
    refine ⟨?_, ?_⟩
    · rw [addr_add, Nat.zero_add, hb.cell]; exact h1
    · rw [addr_add, Nat.zero_add, hb.cell]; exact h2

theorem wrow_one {w : World} {B : Nat} {v : Value} {ws : List (Nat × Nat)} (h : WRow w B v ws) : Value.oneCell' v = true := by
  obtain ⟨a, c, rfl⟩ := h.ways.form
  rfl

theorem append_way {w : World} {B : Nat} {v : Value} {ws : List (Nat × Nat)} (hB : B ≤ w.heap.size) (h : WRow w B v ws) (hl : ws.length ≤ 1000) (x : Nat × Nat) (g : Nat) (hg : Blk w g 74 #[.int .u64 (x.1 : Int), .int .u64 (x.2 : Int)]) :
    ∃ v' w', (Builtin.append_ #[28, 28] 28 #[v, .slice (some ⟨g, 0, none⟩) 1 1]).run Try.prog w = .ok v' w' ∧ WRow w' B v' (ws ++ [x]) ∧ w.grownBy w' v.ownBlock := by
  obtain ⟨i0, hi, hz0, hz1, hz2⟩ := info_parts info_way
  obtain ⟨v', w', hr, h1, h2, -⟩ := run_append_own (P := Try.prog) w B 28 28 74 i0 (.agg #[.int .u64 0, .int .u64 0]) 2 16 Try.underlying28 hi hz0 hz1 hz2 rfl (by decide) v ws.length (ws.flatMap wayC) h ⟨g, 0, none⟩ 1 1 (wayC x) rfl
    (fun j u hj => by rw [addr_add, Nat.zero_add, hg.cell]; simpa [wayC] using hj) (fun u hu => ways_one [x] u (by simpa using hu)) (by unfold maxLen; omega) (by omega) hB
  refine ⟨v', w', hr, ?_, h2⟩
  unfold WRow
  rw [List.length_append, List.flatMap_append]
  simpa using h1

theorem wpList_build_way {w : World} {ops : Array Oper} {rest : List Oper} {o : Oper} {a : Act} {Q : Exit → Act → World → Prop} (hgd : o.guard = none) (s : Operand) (ho : o.op = .buildSlice 28 1 #[(0, s)])
    (x : Nat × Nat) (hx : a.eval s = .agg #[.int .u64 (x.1 : Int), .int .u64 (x.2 : Int)])
    (h : ∀ W', Blk W' w.heap.size 74 #[.int .u64 (x.1 : Int), .int .u64 (x.2 : Int)] → Below w.heap.size w W' → wpList Try.prog ops Q rest (a.put o.dst (.slice (some ⟨w.heap.size, 0, none⟩) 1 1)) W') : wpList Try.prog ops Q (o :: rest) a w := by
  have hr : (Instr.buildSlice 28 1 #[(0, .agg #[.int .u64 (x.1 : Int), .int .u64 (x.2 : Int)])]).run Try.prog w = .ok (.slice (some ⟨w.heap.size, 0, none⟩) 1 1) (w.alloc (.cells #[.int .u64 (x.1 : Int), .int .u64 (x.2 : Int)] 74)) := by
    obtain ⟨i, hi, hz0, hz1, hz2⟩ := info_parts info_way
    refine run_buildSlice w _ _ 1 _ _ i _ Try.underlying28 hi hz0 (by rw [hz1]; decide) (by rw [hz1]; decide) ?_
    rw [hz1]
    have := Go.Great.fill_whole (s := 2) (by decide) [.agg #[.int .u64 (x.1 : Int), .int .u64 (x.2 : Int)]] ((Array.range (1 * 2)).map ((Value.agg #[.int .u64 0, .int .u64 0]).cells[· % (Value.agg #[.int .u64 0, .int .u64 0]).cells.size]!)) (by simp [Value.cells]) (by simp)
    simpa [Value.cells] using this
  refine wpList_plain hgd fun K hK => ?_
  unfold Oper.wp execOp
  simp only [ho, Sem.run_bind, List.map_toArray, List.map_cons, List.map_nil, hx, hr, Result.andThen_ok]
  exact hK _ _ (h _ (Blk.new w _ _) ((Below.refl _ _).alloc (Nat.le_refl _) _))

theorem load_way (W : World) (p : Addr) (x : Nat × Nat) (h1 : W.cell? p = some (.int .u64 (x.1 : Int))) (h2 : W.cell? ⟨p.block, p.off + 1, none⟩ = some (.int .u64 (x.2 : Int))) : (Instr.loadAt 74 (.pointer (some p))).run Try.prog W = .ok (.agg #[.int .u64 (x.1 : Int), .int .u64 (x.2 : Int)]) W :=
  loads_cells p 74 _ (wayC x) Try.underlying74 rfl (by kernel_rfl) fun j v hj => by
    rcases j with _ | _ | j
    · simp [wayC] at hj; subst hj; simpa [Addr.add] using h1
    · simp [wayC] at hj; subst hj; simpa [Addr.add] using h2
    · simp [wayC] at hj

theorem blockW_step (ws : List (Nat × Nat)) (a b i : Nat) (x : Nat × Nat) (h : ws[i]? = some x) : (ws.take (i + 1)).filter (fun y => decide (y ≠ (a, b))) = (ws.take i).filter (fun y => decide (y ≠ (a, b))) ++ if decide (x ≠ (a, b)) = true then [x] else [] := by
  obtain ⟨h1, h2⟩ := List.getElem?_eq_some_iff.1 h
  rw [List.take_succ_eq_append_getElem h1, List.filter_append, List.filter_cons, List.filter_nil, h2]

set_option maxHeartbeats 4000000 in
theorem refBlock_any (R : Nat) (vL vW : Value) (ws : List (Nat × Nat)) (a b : Nat) (yes : Bool) (w : World) (hR : Blk w R 30 #[vL, vW]) (hW : Ways w vW ws) (hl : ws.length ≤ 1000) :
    Calls Try.prog 20 #[.pointer (some ⟨R, 0, none⟩), .int .u64 (a : Int), .int .u64 (b : Int), .bool yes] w fun e w' => e = .returned (.tuple #[]) ∧ ∃ v', Blk w' R 30 #[vL, v'] ∧ WRow w' w.heap.size v' (blockW ws a b yes) ∧ OnlyS (fun k => k = R) w w' := by
  have hRl : R < w.heap.size := hR.lt
  obtain ⟨sa, c, rfl⟩ := hW.form
  obtain ⟨n, hn⟩ : ∃ n, n = ws.length := ⟨_, rfl⟩
  rw [← hn] at hW hl hR
  have HW := Lib.hid hW
  have HN := Lib.hid hn
  have HRb := Lib.hid hR
  have hc1 : w.cell? ⟨R, 1, none⟩ = some (.slice sa n c) := by rw [hR.cell]; rfl
  clear hn hW hR
  go_enter Try.func20, Try.ntmps20
  go_wp2
  go_loopw [8, 9] (fun s8 s9 wr => ∃ i : Nat, i ≤ n ∧ s9 = .int .i64 (i : Int) ∧ WRow wr w.heap.size s8 ((ws.take i).filter fun y => decide (y ≠ (a, b))) ∧ Below w.heap.size w wr) (fun _ s9 _ => n - (intOf s9).toNat)
  case atStart => exact ⟨0, by omega, rfl, World.ownsRow_nil _ _ _ _, Below.refl _ _⟩
  case round =>
    obtain ⟨i, hi, rfl, hrow, hb⟩ := hrel
    have hcr : wr.cell? ⟨R, 1, none⟩ = some (.slice sa n c) := by rw [(HRb.out.keep hb).cell]; rfl
    have HB := Lib.hid hb
    have HR := Lib.hid hrow
    have hle : ((ws.take i).filter fun y => decide (y ≠ (a, b))).length ≤ 1000 := by
      refine Nat.le_trans (List.length_filter_le _ _) ?_
      rw [List.length_take]; have := HN.out; omega
    clear hc1
    by_cases hlt : i < n
    · obtain ⟨x, hx⟩ : ∃ x, ws[i]? = some x := ⟨ws[i]'(by have := HN.out; omega), List.getElem?_eq_getElem _⟩
      obtain ⟨ad, rfl, h1, h2⟩ := (HW.out.below (Nat.le_refl _) hb).load hx
      have HLd := Lib.hid (fun (W : World) (hW : Below wr.heap.size wr W) => load_way W (ad.add (i * 2)) x (by rw [hW.cell (World.block_lt_of_cell? wr _ h1)]; exact h1) (by rw [hW.cell (World.block_lt_of_cell? wr _ h2)]; exact h2))
      have hst := blockW_step ws a b i x hx
      obtain ⟨p, r⟩ := x
      simp only at h1 h2
      have i0 : (0 : Int) ≤ (i : Int) := Int.natCast_nonneg _
      have i1 : (i : Int) < (n : Int) := by omega
      clear hx hrow hb
      by_cases hp : p = a
      · have d1 : ((p : Int) != (a : Int)) = false := by rw [hp]; simp
        by_cases hrb : r = b
        · have d2 : ((r : Int) != (b : Int)) = false := by rw [hrb]; simp
          rw [if_neg (by simp [hp, hrb]), List.append_nil] at hst
          have HS := Lib.hid hst
          clear hst hp hrb hle
          go_wp2
          go_roundw
          case rel => exact ⟨i + 1, by omega, by go_num, by rw [HS.out]; exact HR.out, HB.out⟩
          case measure => simp [intOf]; omega
        · have d2 : ((r : Int) != (b : Int)) = true := by simp; omega
          rw [if_pos (by simp [hp, hrb])] at hst
          have HS := Lib.hid hst
          clear hst hp hrb
          go_wp2_with (first | (refine wpList_load_by rfl 74 (.tmp 47) rfl _ _ rfl (HLd.out _ (Below.refl _ _)) ?_) | (refine wpList_build_way rfl (.tmp 48) rfl (p, r) rfl ?_; intro w4 hg hbl; (have HB4 := Lib.hid (HB.out.trans (hbl.mono HB.out.size))); (have HR4 := Lib.hid (ownsRow_keep HR.out hbl)); (have A4 := Lib.hid (append_way HB4.out.size HR4.out hle (p, r) _ hg)); clear hg hbl) | (at_builtin; refine wpList_append_by rfl (.tmp 41) (.tmp 49) 28 rfl _ _ rfl rfl _ A4.out ?_; rintro v6 w6 ⟨hr, hgr⟩; (have HR6 := Lib.hid hr); (have HB6 := Lib.hid (HB4.out.grown hgr HB4.out.size fun k hk => (World.ownsRow.lt HR4.out k hk).1)); clear hr hgr))
          go_roundw
          case rel => exact ⟨i + 1, by omega, by go_num, by rw [HS.out]; exact HR6.out, HB6.out⟩
          case measure => simp [intOf]; omega
      · have d1 : ((p : Int) != (a : Int)) = true := by simp; omega
        rw [if_pos (by simp [hp])] at hst
        have HS := Lib.hid hst
        clear hst hp
        go_wp2_with (first | (refine wpList_load_by rfl 74 (.tmp 47) rfl _ _ rfl (HLd.out _ (Below.refl _ _)) ?_) | (refine wpList_build_way rfl (.tmp 48) rfl (p, r) rfl ?_; intro w4 hg hbl; (have HB4 := Lib.hid (HB.out.trans (hbl.mono HB.out.size))); (have HR4 := Lib.hid (ownsRow_keep HR.out hbl)); (have A4 := Lib.hid (append_way HB4.out.size HR4.out hle (p, r) _ hg)); clear hg hbl) | (at_builtin; refine wpList_append_by rfl (.tmp 41) (.tmp 49) 28 rfl _ _ rfl rfl _ A4.out ?_; rintro v6 w6 ⟨hr, hgr⟩; (have HR6 := Lib.hid hr); (have HB6 := Lib.hid (HB4.out.grown hgr HB4.out.size fun k hk => (World.ownsRow.lt HR4.out k hk).1)); clear hr hgr))
        go_roundw
        case rel => exact ⟨i + 1, by omega, by go_num, by rw [HS.out]; exact HR6.out, HB6.out⟩
        case measure => simp [intOf]; omega
    · obtain rfl : i = n := by omega
      rw [List.take_of_length_le (by have := HN.out; omega)] at hrow hle HR
      cases yes with
      | false =>
        have HK := Lib.hid (HRb.out.keep hb)
        have hbw : blockW ws a b false = ws.filter fun y => decide (y ≠ (a, b)) := by unfold blockW; simp
        have HBw := Lib.hid hbw
        clear hrow hb hle hbw
        go_wp2_with (refine wpList_store_fld rfl 28 (.tmp 61) (.tmp 59) rfl R 1 u8 rfl rfl 30 _ #[vL, u8] HK.out (by simp) (wrow_one HR.out) (by kernel_rfl) rfl ?_; intro w7 hb7 hos; (have HK7 := Lib.hid hb7); (have HO7 := Lib.hid hos); clear hb7 hos)
        go_end0
        refine ⟨rfl, u8, HK7.out, by rw [HBw.out]; exact ownsRow_to HR.out fun k e => HO7.out.block k (World.ownsRow.lt HR.out k e).2 fun e2 => by have h8 := (World.ownsRow.lt HR.out k e).1; have e3 : k = R := e2; omega, OnlyS.then (S := fun k => k = R) (OnlyS.of_below HB.out fun k hk _ => hk) HO7.out fun k _ e => e⟩
      | true =>
        have hbw : blockW ws a b true = (ws.filter fun y => decide (y ≠ (a, b))) ++ [(a, b)] := by unfold blockW; simp
        have HBw := Lib.hid hbw
        clear hrow hb hbw
        go_wp2_with (first | (refine wpList_build_way rfl (.tmp 55) rfl (a, b) rfl ?_; intro w4 hg hbl; (have HB4 := Lib.hid (HB.out.trans (hbl.mono HB.out.size))); (have HR4 := Lib.hid (ownsRow_keep HR.out hbl)); (have A4 := Lib.hid (append_way HB4.out.size HR4.out hle (a, b) _ hg)); clear hg hbl) | (at_builtin; refine wpList_append_by rfl (.tmp 52) (.tmp 56) 28 rfl _ _ rfl rfl _ A4.out ?_; rintro v6 w6 ⟨hr, hgr⟩; (have HR6 := Lib.hid hr); (have HB6 := Lib.hid (HB4.out.grown hgr HB4.out.size fun k hk => (World.ownsRow.lt HR4.out k hk).1)); clear hr hgr) | (have HK := Lib.hid (HRb.out.keep HB6.out); (refine wpList_store_fld rfl 28 (.tmp 61) (.tmp 59) rfl R 1 v6 rfl rfl 30 _ #[vL, v6] HK.out (by simp) (wrow_one HR6.out) (by kernel_rfl) rfl ?_; intro w7 hb7 hos; (have HK7 := Lib.hid hb7); (have HO7 := Lib.hid hos); clear hb7 hos)))
        go_end0
        refine ⟨rfl, v6, HK7.out, by rw [HBw.out]; exact ownsRow_to HR6.out fun k e => HO7.out.block k (World.ownsRow.lt HR6.out k e).2 fun e2 => by have h8 := (World.ownsRow.lt HR6.out k e).1; have e3 : k = R := e2; omega, OnlyS.then (S := fun k => k = R) (OnlyS.of_below HB6.out fun k hk _ => hk) HO7.out fun k _ e => e⟩
end Go.Proofs.Ytgbhfolbkgibfaa

/- Layer 19: the program's net and the reference's, apart, as far as ways go. -/
namespace Go.Proofs.Ytgbhfolbkgibfaa
set_option maxRecDepth 20000
open Go.RowKit BinMath NetMath
open MsgMath (Mg)

theorem ownsRow_from {w : World} {B Z e s : Nat} {v : Value} {n : Nat} {xs : List Value} (h : w.ownsRow B e s v n xs) (hz : Z ≤ B) : w.ownsRow Z e s v n xs := by
  obtain ⟨h1, h2⟩ := h
  exact ⟨h1, h2.elim .inl fun ⟨g, cap, cur, hv, hB, r⟩ => .inr ⟨g, cap, cur, hv, Nat.le_trans hz hB, r⟩⟩

/-- Both nets, from the block Z on: P the program's, R the reference's (its messages' slice vL, its ways' vW). -/
structure Both (hp : NetProg) (Z : Nat) (W : World) (P R : Nat) (n : Nt) (ws : List (Nat × Nat)) (vL vW : Value) (U : Nat → Prop) : Prop where
  is_ : hp.Is W P n U
  uz : ∀ k, U k → Z ≤ k
  blk : Blk W R 30 #[vL, vW]
  rz : Z ≤ R
  nr : ¬ U R
  row : WRow W Z vW ws
  apart : ∀ k, vW.ownBlock = some k → ¬ U k
  own : vW.ownBlock ≠ some R
  zl : Z ≤ W.heap.size

theorem Both.below {hp : NetProg} {Z : Nat} {W W' : World} {P R : Nat} {n : Nt} {ws : List (Nat × Nat)} {vL vW : Value} {U : Nat → Prop} (h : Both hp Z W P R n ws vL vW U) (hb : Below W.heap.size W W') : Both hp Z W' P R n ws vL vW U :=
  ⟨hp.keep h.is_ (OnlyS.of_below (S := fun k => W.heap.size ≤ k) hb fun k hk _ => hk) (fun k hk h2 => absurd h2 (by omega)), h.uz, h.blk.keep hb, h.rz, h.nr, ownsRow_keep h.row hb, h.apart, h.own, Nat.le_trans h.zl hb.size⟩

/-- The program's net has moved on. -/
theorem Both.prog {hp : NetProg} {Z : Nat} {W W' : World} {P R : Nat} {n n' : Nt} {ws : List (Nat × Nat)} {vL vW : Value} {U U' : Nat → Prop} (h : Both hp Z W P R n ws vL vW U) (ho : OnlyS U W W') (hi : hp.Is W' P n' U') (hu : ∀ k, U' k → U k ∨ W.heap.size ≤ k) : Both hp Z W' P R n' ws vL vW U' :=
  ⟨hi, fun k hk => (hu k hk).elim (h.uz k) (Nat.le_trans h.zl), h.blk.onlyS ho h.nr, h.rz, fun e => (hu R e).elim h.nr fun h2 => absurd h.blk.lt (by omega),
    ownsRow_to h.row fun k e => ho.block k (World.ownsRow.lt h.row k e).2 (h.apart k e),
    fun k e e2 => (hu k e2).elim (h.apart k e) fun h2 => absurd (World.ownsRow.lt h.row k e).2 (by omega), h.own, Nat.le_trans h.zl ho.size⟩

/-- The reference's net has other ways. -/
theorem Both.refr {hp : NetProg} {Z : Nat} {W W' : World} {P R : Nat} {n : Nt} {ws ws' : List (Nat × Nat)} {vL vW v' : Value} {U : Nat → Prop} (h : Both hp Z W P R n ws vL vW U) (hb : Blk W' R 30 #[vL, v']) (hr : WRow W' W.heap.size v' ws') (ho : OnlyS (fun k => k = R) W W') : Both hp Z W' P R n ws' vL v' U :=
  ⟨hp.keep h.is_ ho (fun k _ h2 h3 => h.nr (h2 ▸ h3)), h.uz, hb, h.rz, h.nr, ownsRow_from hr h.zl, fun k e e2 => absurd (hp.lt h.is_ k e2) (by have := (World.ownsRow.lt hr k e).1; omega),
    fun e => absurd (World.ownsRow.lt hr R e).1 (by have := h.blk.lt; omega), Nat.le_trans h.zl ho.size⟩

end Go.Proofs.Ytgbhfolbkgibfaa

