/- Joined: In, LeafBack, LeafOver. -/
import Derived.Test.YtbabpbdenebagaaDoorLeafNode
import Derived.RangeFuncNested
import Derived.RangeFuncBound
import Derived.RangeFuncCalls
import Derived.RangeFuncLeaves
import Derived.RangeFuncBox
import Derived.Shelf.Abstract
import Derived.Shelf.RegionOpen
import Derived.WalkKit
import Derived.OwnWalkIn
import Derived.TacticsInMore
import Derived.LoopNIn
import Derived.LoopIn
import Derived.Test.YtbabpbdenebagaaDoorLeafOps
/- Operations of a walk within a fence (a range over a function): loads and stores of arrays; what a loop's body keeps. -/
namespace Go.Proofs.YtbabpbdenebagaaDoor
set_option maxRecDepth 20000
open Go.RowKit Go.Shelf ShaMath LeafMath Reg

section
variable {F : Fence} {n : Nat} {P : Program} {w : World} {ops : Array Oper} {rest : List Oper} {o : Oper} {a : Act} {Q : Exit → Act → World → Prop}

theorem wpListIn_load_by (hgd : o.guard = none) (ty : TypeId) (x : Operand) (ho : o.op = .load ty x)
    (p v : Value) (hx : a.eval x = p) (hr : (Instr.loadAt ty p).run P w = .ok v w) (h : wpListIn F n P ops Q rest (a.put o.dst v) w) : wpListIn F n P ops Q (o :: rest) a w := by
  refine wpListIn_plain hgd fun K hK => ?_
  unfold Oper.wpIn
  rw [Oper.semAt_eq _ _ _ (fun c hc => by rw [ho] at hc; cases hc)]
  refine ⟨fun f hf => by simp [Oper.about, ho] at hf, ?_⟩
  simp only [execOp, ho, hx, Sem.run_bind, hr, Result.andThen_ok]
  exact hK _ _ h

theorem wpListIn_store_by (hgd : o.guard = none) (ty : TypeId) (x y : Operand) (ho : o.op = .store ty x y)
    (p v : Value) (hx : a.eval x = p) (hy : a.eval y = v) (w' : World) (hr : (Instr.storeAt ty p v).run P w = .ok () w') (h : wpListIn F n P ops Q rest (a.put o.dst undef) w') : wpListIn F n P ops Q (o :: rest) a w := by
  refine wpListIn_plain hgd fun K hK => ?_
  unfold Oper.wpIn
  rw [Oper.semAt_eq _ _ _ (fun c hc => by rw [ho] at hc; cases hc)]
  refine ⟨fun f hf => by simp [Oper.about, ho] at hf, ?_⟩
  simp only [execOp, ho, hx, hy, Sem.run_bind, hr, Result.andThen_ok]
  exact hK _ _ h
end

theorem Blk.keptBy {W W' : World} {row : Option Nat} {g : Nat} {t : TypeId} {cs : Array Value} (h : Blk W g t cs) (hg : W.grownBy W' row) (hr : ∀ r, row = some r → ∃ o : Obj, W.heap[r]? = some o ∧ o.isCells = false) : Blk W' g t cs :=
  (hg.block g h.lt (fun e => by
    obtain ⟨o, ho, hc⟩ := hr g e.symm
    rw [show W.heap[g]? = _ from h] at ho
    cases ho
    cases hc)).trans h
/-- 'The block holds f s' speaks of cells alone. -/
theorem blk_own {β : Type} (g : Nat) (t : TypeId) (f : β → Array Value) : Own (fun s W => Blk W g t (f s)) := fun _ _ _ _ hs hg hr => hs.keptBy hg hr

theorem keepsFrom_below {B : Nat} {W W' : World} (h : Below W.heap.size W W') : KeepsFrom B W W' :=
  ⟨h.size, fun k _ _ hk _ => (h.block k (Array.getElem?_eq_some_iff.1 hk).1).trans hk⟩
theorem keepsFrom_row {B : Nat} {W : World} {g : Nat} {t : TypeId} {cs : Array Value} (h : Blk W g t cs) (xs : Array Value) : KeepsFrom B W (W.setRow g xs) :=
  ⟨by simp [World.setRow], fun k _ _ hk ho => by
    have hne : k ≠ g := fun e => by
      subst e
      rw [show W.heap[k]? = _ from h] at hk
      cases hk
      cases ho
    unfold World.setRow
    simpa [Array.getElem?_modify, Ne.symm hne] using hk⟩
end Go.Proofs.YtbabpbdenebagaaDoor

/- slices.Backward over hashes. -/
namespace Go.Proofs.YtbabpbdenebagaaDoor
set_option maxRecDepth 20000
open Go.RowKit Go.Shelf ShaMath LeafMath Reg

attribute [local go_sem] Oper.semAt_some

/-- A hash, with its length. -/
abbrev H32 := { x : Hs // x.length = 32 }
def plain (xs : List H32) : List Hs := xs.map (·.1)
theorem plain_of (hs : List Hs) (h : All32 hs) : ∃ xs, plain xs = hs := ⟨hs.attach.map fun x => ⟨x.1, h x.1 x.2⟩, by simp [plain, List.map_map, Function.comp_def]⟩

/-- The last k of a list, with their places, from the last one on. -/
def backs (xs : List H32) (k : Nat) : List (Nat × H32) := (List.range k).filterMap fun j => (xs[xs.length - 1 - j]?).map fun x => (xs.length - 1 - j, x)
theorem backs_succ (xs : List H32) (k : Nat) (x : H32) (hx : xs[xs.length - 1 - k]? = some x) : backs xs (k + 1) = backs xs k ++ [(xs.length - 1 - k, x)] := by
  simp [backs, List.range_succ, List.filterMap_append, hx]
theorem backs_length (xs : List H32) : ∀ k, k ≤ xs.length → (backs xs k).length = k
  | 0, _ => rfl
  | k + 1, h => by
    rw [backs_succ xs k (xs[xs.length - 1 - k]'(by omega)) (List.getElem?_eq_getElem _), List.length_append, backs_length xs k (by omega)]
    rfl
theorem backs_plain (xs : List H32) : ∀ k, k ≤ xs.length → (backs xs k).map (·.2) = (xs.drop (xs.length - k)).reverse
  | 0, _ => by simp [backs]
  | k + 1, h => by
    rw [backs_succ xs k (xs[xs.length - 1 - k]'(by omega)) (List.getElem?_eq_getElem _), List.map_append, backs_plain xs k (by omega)]
    have e : xs.drop (xs.length - (k + 1)) = xs[xs.length - 1 - k]'(by omega) :: xs.drop (xs.length - k) := by
      rw [List.drop_eq_getElem_cons (by omega)]
      congr 1
      · congr 1
        omega
      · congr 1
        omega
    rw [e]
    simp
theorem backs_all (xs : List H32) : (backs xs xs.length).map (·.2) = xs.reverse := by rw [backs_plain xs _ (Nat.le_refl _)]; simp

/-- What a round keeps: all that was there below n₀, and the box of the slice. -/
def KpB (n₀ g : Nat) (A B : World) : Prop := Below n₀ A B ∧ ∀ t cs, Blk A g t cs → Blk B g t cs
theorem KpB.trans {n₀ g : Nat} {A B C : World} (h : KpB n₀ g A B) (k : KpB n₀ g B C) : KpB n₀ g A C := ⟨h.1.trans k.1, fun t cs hb => k.2 t cs (h.2 t cs hb)⟩

set_option maxRecDepth 100000 in
set_option maxHeartbeats 2000000 in
theorem backward1_in (F : Fence) (n : Nat) (hf : F.fn 53) (hro : F.round = none) (hn : 1 ≤ n) (l Bs n₀ : Nat) (a : Option Addr) (c : Nat) (xs : List H32) (hlen : xs.length ≤ 4398046511104)
    (J Jx : List (Nat × H32) → World → Prop)
    (hY : ∀ pre x W, J pre W → pre.length < xs.length → YieldAt F (n - 1) Tryd.prog l #[.int .i64 (x.1 : Int), .agg (bs x.2.1)] W fun e W' =>
      (e = .returned (.bool true) ∧ J (pre ++ [x]) W' ∧ KpB n₀ Bs W W') ∨ (e = .returned (.bool false) ∧ Jx (pre ++ [x]) W'))
    (W : World) (hBs : Blk W Bs 30 #[.slice a xs.length c]) (hH : ∀ W', Below n₀ W W' → Hss W' (.slice a xs.length c) (plain xs)) (h0 : J [] W) :
    CallsIn F n Tryd.prog 53 #[.func (.yield l) #[] #[], .pointer (some ⟨Bs, 0, none⟩)] W fun e W' => (∃ v, e = .returned v) ∧
      ((∃ ys, ys = backs xs xs.length ∧ J ys W') ∨ (∃ pre, (∃ k, k ≤ xs.length ∧ pre = backs xs k) ∧ Jx pre W')) := by
  obtain ⟨m, hm⟩ : ∃ m, m = xs.length := ⟨_, rfl⟩
  have HM := Lib.hid hm
  rw [← hm] at hBs hlen hH hY ⊢
  refine callsIn_of_wp Tryd.func53 rfl hf ?_ hro
  simp only [Tryd.ntmps53, List.size_toArray, List.length_cons, List.length_nil, Nat.reduceAdd, Nat.reduceSub, Array.replicate_succ, Array.replicate_zero, List.push_toArray, List.append_toArray, List.nil_append, List.cons_append]
  have hc0 : W.cell? ⟨Bs, 0, none⟩ = some (.slice a m c) := by rw [hBs.cell]; rfl
  have hw0 : wrap64 ((m : Int) - 1) = (m : Int) - 1 := by unfold wrap64; omega
  clear hm
  gi_wp2
  gi_loopw [3] (fun i wr => ∃ r : Nat, r ≤ m ∧ i = .int .i64 ((r : Int) - 1) ∧ J (backs xs (m - r)) wr ∧ KpB n₀ Bs W wr) (fun i _ => (intOf i + 1).toNat)
  case atStart => exact ⟨m, Nat.le_refl _, rfl, by rw [Nat.sub_self]; exact h0, Below.refl _ _, fun _ _ h => h⟩
  case round =>
    obtain ⟨r, hr, rfl, hJs, hkp⟩ := hrel
    cases r with
    | zero =>
      have e0 : ((0 : Nat) : Int) - 1 = -1 := rfl
      rw [e0]
      gi_wp2
      go_end0
      exact ⟨⟨_, rfl⟩, .inl ⟨_, by rw [Nat.sub_zero], hJs⟩⟩
    | succ r =>
      have hm := HM.out
      have e1 : (((r + 1 : Nat) : Int) - 1) = (r : Int) := by omega
      rw [e1]
      have hlt : r < xs.length := by omega
      obtain ⟨x, hx⟩ : ∃ x, xs[r]? = some x := ⟨xs[r]'hlt, List.getElem?_eq_getElem _⟩
      have hbk : backs xs (m - (r + 1) + 1) = backs xs (m - (r + 1)) ++ [(r, x)] := by
        have := backs_succ xs (m - (r + 1)) x (by rw [show xs.length - 1 - (m - (r + 1)) = r by omega]; exact hx)
        rwa [show xs.length - 1 - (m - (r + 1)) = r by omega] at this
      obtain ⟨fn, tmps, assign, body, hy, hR⟩ := hY _ (r, x) wr hJs (by rw [backs_length xs _ (by omega)]; omega)
      dsimp only at hy
      have hHr := hH wr hkp.1
      have hpx : (plain xs)[r]? = some x.1 := by simp [plain, hx]
      obtain ⟨ad, rfl, hcx⟩ := hHr.load hpx
      have hld := load_hash wr (ad.add (r * 32)) x.1 x.2 hcx
      have hix := hss_index wr ad m c r (by omega)
      have HLd := Lib.hid hld
      have HBk := Lib.hid hbk
      have hcr : wr.cell? ⟨Bs, 0, none⟩ = some (.slice (some ad) m c) := by rw [(hkp.2 _ _ hBs).cell]; rfl
      clear hld hbk hHr hpx hcx e1 hx hlt hm
      have hw1 : wrap64 ((r : Int) - 1) = (r : Int) - 1 := by unfold wrap64; omega
      gi_wp2_with (refine wpListIn_load_by rfl 24 (.tmp 15) rfl _ _ rfl HLd.out ?_)
      refine hR.mono ?_
      rintro e W3 (⟨rfl, hJ3, hk3⟩ | ⟨rfl, hJx3⟩)
      · gi_wp2
        go_roundw
        case rel => exact ⟨r, by omega, rfl, by rw [show m - r = m - (r + 1) + 1 by omega, HBk.out]; exact hJ3, hkp.trans hk3⟩
        case measure => simp only [intOf]; omega
      · gi_wp2
        refine bodyPost_ret (results_none rfl _ _ _) rfl ?_
        exact ⟨⟨_, rfl⟩, .inr ⟨_, ⟨m - (r + 1) + 1, by omega, rfl⟩, by rw [HBk.out]; exact hJx3⟩⟩

theorem KpB.box {n₀ g : Nat} {A B : World} {t : TypeId} {cs : Array Value} (h : KpB n₀ g A B) (hb : Blk A g t cs) : Blk B g t cs := h.2 t cs hb
theorem kpB_b {n₀ g : Nat} {w : World} (hn : n₀ ≤ w.heap.size) : ∀ (W : World) (l : Nat) (o o' : Obj), w.heap.size ≤ l → W.heap[l]? = some o → o.isCells = false → o.isWalk = false → KpB n₀ g W (W.putObj l o') := fun W l o o' hl ho hc hw =>
  ⟨belowK_b hn W l o o' hl ho hc hw, fun t cs hb => hb.keptBy (grownBy_putObj' W l o') (fun r e => by cases e; exact ⟨o, ho, hc⟩)⟩

theorem backward_stops (F : Fence) (n : Nat) (hf : F.fn 53) (hro : F.round = none) (hn : 1 ≤ n) (Bs n₀ : Nat) (a : Option Addr) (c : Nat) (xs : List H32) (hlen : xs.length ≤ 4398046511104)
    (w : World) (hBs : Blk w Bs 30 #[.slice a xs.length c]) (hn₀ : n₀ ≤ w.heap.size) (hH : ∀ W', Below n₀ w W' → Hss W' (.slice a xs.length c) (plain xs)) :
    SeqStopsK F n Tryd.prog 53 #[.pointer (some ⟨Bs, 0, none⟩)] (fun x : Nat × H32 => #[Value.int .i64 (x.1 : Int), .agg (bs x.2.1)]) (KpB n₀ Bs) (fun ys => ys = backs xs xs.length)
      (fun pre => ∃ k, k ≤ xs.length ∧ pre = backs xs k) xs.length w := fun l J Jx W hW _ _ hY h0 =>
  backward1_in F n hf hro hn l Bs n₀ a c xs hlen J Jx hY W (hBs.keep hW) (fun W' h => hH W' ((hW.mono hn₀).trans h)) h0

set_option maxHeartbeats 1000000 in
theorem backward_in (F : Fence) (n : Nat) (hf : F.fn 46) (hro : F.round = none) (a : Option Addr) (len cap : Nat) (w : World) :
    CallsIn F n Tryd.prog 46 #[.slice a len cap] w fun e w' => e = .returned (.func (.func 53) #[] #[.pointer (some ⟨w.heap.size, 0, none⟩)]) ∧ w' = w.alloc (.cells #[.slice a len cap] 30) := by
  refine callsIn_of_wp Tryd.func46 rfl hf ?_ hro
  simp only [Tryd.ntmps46, List.size_toArray, List.length_cons, List.length_nil, Nat.reduceAdd, Nat.reduceSub, Array.replicate_succ, Array.replicate_zero, List.push_toArray, List.append_toArray, List.nil_append, List.cons_append]
  gi_wp2
  go_ret
  exact ⟨rfl, rfl⟩
end Go.Proofs.YtbabpbdenebagaaDoor

/- A hash under a node with each peak ahead of it: the program's over. -/
namespace Go.Proofs.YtbabpbdenebagaaDoor
set_option maxRecDepth 20000
open Go.RowKit Go.Shelf ShaMath LeafMath Reg

attribute [local go_sem] Oper.semAt_some

/-- What has come, under a hash. -/
def under (n : Int) (h : Hs) (pre : List (Nat × H32)) : Hs := pre.foldl (fun acc p => nodeH n p.2.1 acc) h
theorem under_snoc (n : Int) (h : Hs) (pre : List (Nat × H32)) (x : Nat × H32) : under n h (pre ++ [x]) = nodeH n x.2.1 (under n h pre) := by simp [under]
theorem under_length (n : Int) (h : Hs) (hh : h.length = 32) (pre : List (Nat × H32)) : (under n h pre).length = 32 := by
  rcases List.eq_nil_or_concat pre with rfl | ⟨q, x, rfl⟩
  · exact hh
  · rw [List.concat_eq_append, under_snoc]
    exact nodeH_length _ _ _
theorem under_all (n : Int) (h : Hs) (xs : List H32) : under n h (backs xs xs.length) = (plain xs).foldr (nodeH n) h := by
  have e : ∀ l : List (Nat × H32), under n h l = ((l.map (·.2)).map (·.1)).foldl (fun acc p => nodeH n p acc) h := fun l => by
    unfold under
    rw [List.foldl_map, List.foldl_map]
  rw [e, backs_all, List.map_reverse, List.foldl_reverse]
  rfl

theorem worldIn_cut {F : Fence} {n : Nat} {P : Program} {c : Code} {Q : Exit → Act → World → Prop} {a : Act} {W : World} (φ : World → Prop) (h : φ W) (k : ∀ W', φ W' → c.wpIn F n P Q a W') : c.wpIn F n P Q a W := k W h

set_option maxRecDepth 100000 in
set_option maxHeartbeats 4000000 in
theorem over_in (n : Int) (ps : List Hs) (a : Option Addr) (m c : Nat) (h : Hs) (w : World) (hn : I64 n) (hv : Hss w (.slice a m c) ps) (hm : m = ps.length) (hm2 : m ≤ 4398046511104) (hh : h.length = 32) (ht : Tabs w) :
    CallsIn Fence.wide 100 Tryd.prog 36 #[.int .i64 n, .slice a m c, .agg (bs h)] w fun e w' => e = .returned (.agg (bs (ps.foldr (nodeH n) h))) ∧ Below w.heap.size w w' := by
  obtain ⟨xs, rfl⟩ := plain_of ps hv.all
  obtain rfl : m = xs.length := by rw [hm]; simp [plain]
  have HV := Lib.hid hv
  have HT := Lib.hid ht
  have HI := Lib.hid hn
  have HH := Lib.hid hh
  obtain ⟨ch, hch⟩ : ∃ ch, ch = bs h := ⟨_, rfl⟩
  have HCh := Lib.hid hch
  rw [← hch]
  clear hv ht hn hh hm hch
  refine callsIn_of_wp_marks Tryd.func36 rfl trivial ?_ rfl
  simp only [Tryd.ntmps36, List.size_toArray, List.length_cons, List.length_nil, Nat.reduceAdd, Nat.reduceSub, Array.replicate_succ, Array.replicate_zero, List.push_toArray, List.append_toArray, List.nil_append, List.cons_append]
  gi_wp2_with fail
  refine ⟨trivial, (backward_in Fence.wide _ trivial rfl _ _ _ _).mono ?_⟩
  rintro e w' ⟨rfl, rfl⟩
  gi_wp2_with fail
  refine worldIn_cut (fun W => Blk W w.heap.size 3 #[.int .i64 n] ∧ Blk W (w.heap.size + 1) 24 ch ∧ Blk W (w.heap.size + 2) 24 (bs (List.replicate 32 0)) ∧ Blk W (w.heap.size + 1 + 1 + 1) 30 #[.slice a xs.length c] ∧ Below w.heap.size w W) ?_ ?_
  · refine ⟨((((Blk.new w _ _).alloc _).alloc _).alloc _), ((Blk.newAt _ _ _ _ _ (by simp) rfl).alloc _).alloc _, (Blk.newAt _ _ _ _ _ (by simp) rfl).alloc _, Blk.newAt _ _ _ _ _ (by simp) rfl, ?_⟩
    exact ((((Below.refl _ _).alloc (Nat.le_refl _) _).alloc (by simp) _).alloc (by simp; omega) _).alloc (by simp; omega) _
  rintro W0 ⟨k0, k1, k2, k3, kb⟩
  have hsz := k3.lt
  rw [HCh.out] at k1
  refine wpIn_rangeFunc_ownH rfl (by decide) (gf := 53) (lb := #[.pointer (some ⟨w.heap.size + 1 + 1 + 1, 0, none⟩)]) rfl trivial (enters_of Tryd.func53 (by kernel_rfl) rfl)
    (backward_stops Fence.wide (100 - 1) trivial rfl (by decide) (w.heap.size + 1 + 1 + 1) w.heap.size a c xs hm2 W0 k3 (by omega) (fun W' h => HV.out.below (Nat.le_refl _) (kb.trans h))) KpB.trans (kpB_b (by omega)) (Below.refl _ _) (fun _ => rfl)
    (fun pre W => ((Blk W w.heap.size 3 #[.int .i64 n] ∧ Blk W (w.heap.size + 1) 24 (bs (under n h pre))) ∧ (Blk W (w.heap.size + 2) 24 (bs (List.replicate 32 0)) ∧ Blk W (w.heap.size + 1 + 1 + 1) 30 #[.slice a xs.length c])) ∧ Below w.heap.size w W)
    (fun _ _ _ => False)
    (OwnFrom.and (OwnFrom.and (OwnFrom.and (Own.from (blk_own _ _ _) _) (Own.from (blk_own _ _ _) _)) (OwnFrom.and (Own.from (blk_own _ _ _) _) (Own.from (blk_own _ _ _) _))) (ownFrom_below (Nat.le_refl _) (by omega)))
    (fun _ _ _ _ _ hs _ _ => hs)
    ⟨⟨⟨k0, k1⟩, k2, k3⟩, kb⟩
    (fun x a' W => ∃ Bx, w.heap.size + 1 + 1 + 1 < Bx ∧ Blk W Bx 24 (bs x.2.1) ∧ a' = { tmps := #[.int .i64 n, .slice a xs.length c, .agg ch, .pointer (some ⟨w.heap.size, 0, none⟩), undef, .pointer (some ⟨w.heap.size + 1, 0, none⟩), .pointer (some ⟨w.heap.size + 1 + 1, 0, none⟩), undef, .pointer (some ⟨Bx, 0, none⟩), .slice a xs.length c, .func (.func 53) #[] #[.pointer (some ⟨w.heap.size + 1 + 1 + 1, 0, none⟩)], .int .i64 (x.1 : Int), .agg (bs x.2.1), undef, undef, undef, undef, undef], defers := [] })
    (fun x a' _ X Y row hs hg hr => by obtain ⟨Bx, h1, h2, h3⟩ := hs; exact ⟨Bx, h1, h2.keptBy hg (fun r e => (hr r e).2), h3⟩)
    ?assign ?body ?done ?stop
  case assign =>
    rintro l pre x W K ⟨⟨⟨b0, b1⟩, b2, b3⟩, hB1⟩ hK
    have hlt := hB1.size
    have hb2 := b2.lt
    obtain ⟨cx, hcx, hcx1, hcxo⟩ := hash_cells x.2.1 x.2.2
    rw [← hcx] at hK ⊢
    have HSx := Lib.hid (size_hash hcx1)
    have HCx := Lib.hid hcx1
    have HOx := Lib.hid hcxo
    have HK := Lib.hid hK
    clear hK hcx hcx1 hcxo
    gi_wp2_with (refine wpListIn_store_by rfl 24 (.tmp 8) (.tmp 12) rfl _ _ rfl rfl _ (Blk.stores (Blk.new W _ _) 24 cx HSx.out (by rw [HCx.out]; rfl) HOx.out) ?_)
    have bn := below_new W (bs (List.replicate 32 0)) cx 24
    exact HK.out _ _ (keepsFrom_below bn) ⟨bn.mono hlt, fun t cs hb => hb.keep bn⟩ ⟨⟨⟨b0.keep bn, b1.keep bn⟩, b2.keep bn, b3.keep bn⟩, hB1.trans (bn.mono hlt)⟩ ⟨W.heap.size, b3.lt, Blk.row (Blk.new W _ _) cx, rfl⟩
  case body =>
    rintro l pre x a' W hl - ⟨⟨⟨b0, b1⟩, b2, b3⟩, hB1⟩ ⟨Bx, hBx, bX, rfl⟩ hlt
    obtain ⟨cx, hcx, hcx1, hcxo⟩ := hash_cells x.2.1 x.2.2
    obtain ⟨cu, hcu, hcu1, hcuo⟩ := hash_cells (under n h pre) (under_length n h HH.out pre)
    obtain ⟨cs, hcs, hcs1, hcso⟩ := hash_cells (under n h (pre ++ [x])) (under_length n h HH.out _)
    have HNode := Lib.hid (node_any n x.2.1 (under n h pre) W HI.out x.2.2 (under_length n h HH.out pre) (HT.out.below (Nat.le_refl _) hB1))
    rw [← under_snoc n h pre x, ← hcs, ← hcu, ← hcx] at HNode
    rw [← hcx] at bX ⊢
    rw [← hcu] at b1
    have hl0 : W.cell? ⟨w.heap.size, 0, none⟩ = some (.int .i64 n) := by rw [b0.cell]; rfl
    have HX := Lib.hid (bX.loads 24 _ Tryd.underlying24 rfl (size_hash hcx1))
    have HU := Lib.hid (b1.loads 24 _ Tryd.underlying24 rfl (size_hash hcu1))
    have HSz := Lib.hid (size_hash hcs1)
    have HSo := Lib.hid hcso
    have HS1 := Lib.hid (hcu1.trans hcs1.symm)
    have HCs := Lib.hid hcs
    have HB := Lib.hid (And.intro b0 (And.intro b1 (And.intro b2 b3)))
    have HB1 := Lib.hid hB1
    clear hcx hcx1 hcxo hcu hcu1 hcuo hcs hcs1 hcso b0 b1 b2 b3 bX hB1
    gi_wp2_with (first
      | (refine wpListIn_load_by rfl 24 (.tmp 8) rfl _ _ rfl HX.out ?_)
      | (refine wpListIn_load_by rfl 24 (.tmp 5) rfl _ _ rfl HU.out ?_))
    refine ⟨trivial, (CallsIn.inRound l (callsIn_wide.2 HNode.out)).mono ?_⟩
    rintro e W3 ⟨rfl, hb3⟩
    obtain ⟨b0, b1, b2, b3⟩ := HB.out
    have hle := HB1.out.size
    have HW3 := Lib.hid (b1.keep hb3)
    have HB3 := Lib.hid hb3
    clear hl0 HX HU hb3 HNode
    gi_wp2_with (refine wpListIn_store_by rfl 24 (.tmp 5) (.tmp 16) rfl _ _ rfl rfl _ (Blk.stores HW3.out 24 cs HSz.out HS1.out HSo.out) ?_)
    have k0 := b0.keep HB3.out
    have k2 := b2.keep HB3.out
    have k3 := b3.keep HB3.out
    refine ⟨(keepsFrom_below HB3.out).trans (keepsFrom_row HW3.out cs), ⟨below_setRow (HB3.out.mono hle) _ _ (by omega), fun t zs hb => (hb.keep HB3.out).rowOther _ (by omega)⟩, ⟨⟨k0.rowOther _ (by omega), ?_⟩, k2.rowOther _ (by omega), k3.rowOther _ (by omega)⟩, below_setRow (HB1.out.trans (HB3.out.mono hle)) _ _ (by omega)⟩
    rw [← HCs.out]
    exact HW3.out.row cs
  case done =>
    rintro D ys W hD rfl ⟨⟨⟨b0, b1⟩, b2, b3⟩, hB1⟩ hK
    rw [under_all] at b1
    have hz : (List.foldr (nodeH n) h (plain xs)).length = 32 := by rw [← under_all]; exact under_length n h HH.out _
    obtain ⟨cs, hcs, hcs1, hcso⟩ := hash_cells (List.foldr (nodeH n) h (plain xs)) hz
    rw [← hcs] at b1
    have HU := Lib.hid (b1.loads 24 _ Tryd.underlying24 rfl (size_hash hcs1))
    have HSt := Lib.hid (Blk.stores (P := Tryd.prog) b2 24 cs (size_hash hcs1) (by rw [hcs1]; rfl) hcso)
    have HCs := Lib.hid hcs
    have HC1 := Lib.hid hcs1
    have HB2 := Lib.hid b2
    have HB := Lib.hid hB1
    have HK := Lib.hid hK
    clear b0 b1 b2 b3 hB1 hcs hcs1 hcso hz hK
    gi_wp2_with (first
      | (refine wpListIn_load_by rfl 24 (.tmp 5) rfl _ _ rfl HU.out ?_)
      | (refine wpListIn_store_by rfl 24 (.tmp 6) (.tmp 17) rfl _ _ rfl rfl _ HSt.out ?_))
    have hK' := (keepsFrom_row (B := 0) HB2.out cs).same D _ (Nat.zero_le _) HK.out rfl
    have hb := HB2.out.row cs
    have hb' : Blk ((W.setRow (w.heap.size + 1 + 1) cs).putObj D (.deferred none)) (w.heap.size + 2) 24 cs := hb.keptBy (grownBy_putObj' _ D _) (fun r e => by cases e; exact ⟨_, hK', rfl⟩)
    refine ⟨by simp, .inl ⟨_, _, rfl, run_takeDeferred hK', ?_⟩⟩
    refine ⟨.agg cs, results_cell_row rfl _ _ (w.heap.size + 2) 24 cs (0, 0) _ rfl hb' Tryd.underlying24 rfl (size_hash HC1.out), by rw [HCs.out], ?_⟩
    exact (below_setRow HB.out _ _ (by omega)).trans (belowK_b (w := w) (Nat.le_refl _) _ D _ _ (by omega) hK' rfl rfl)
  case stop =>
    rintro D q pre W _ _ h _
    exact h.elim

theorem over_any (n : Int) (ps : List Hs) (v : Value) (h : Hs) (w : World) (hn : I64 n) (hv : Hss w v ps) (hm2 : ps.length ≤ 4398046511104) (hh : h.length = 32) (ht : Tabs w) :
    Calls Tryd.prog 36 #[.int .i64 n, v, .agg (bs h)] w fun e w' => e = .returned (.agg (bs (ps.foldr (nodeH n) h))) ∧ Below w.heap.size w w' := by
  obtain ⟨a, c, rfl, _⟩ := hv.form
  exact callsIn_wide.1 (over_in n ps a ps.length c h w hn hv rfl hm2 hh ht)
end Go.Proofs.YtbabpbdenebagaaDoor

