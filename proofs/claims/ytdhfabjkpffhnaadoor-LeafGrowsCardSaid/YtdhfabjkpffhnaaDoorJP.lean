/- Joined: In, LeafBack, LeafOver, RngSpec, LeafTail, LeafPeak, LeafPush, RngProgram. -/
import Derived.Test.YtdhfabjkpffhnaaDoorKC
import Derived.RangeFuncNested
import Derived.RangeFuncBound
import Derived.RangeFuncCalls
import Derived.RangeFuncLeaves
import Derived.RangeFuncBox
import Derived.Shelf.Abstract
import Derived.Shelf.RegionOpen
import Derived.WalkKit
import Derived.OwnWalkIn
import Derived.TacticsInMore
import Derived.LoopNIn
import Derived.LoopIn
import Derived.Test.YtdhfabjkpffhnaaDoorKM
import Derived.Test.YtdhfabjkpffhnaaDoorKN
import Derived.Test.YtdhfabjkpffhnaaDoorKS
import Derived.Lib.TrailingZeros
import Derived.Test.YtdhfabjkpffhnaaDoorKH
import Derived.Shelf.Spec.TrailingZeros
import Derived.Test.YtdhfabjkpffhnaaDoorKL
import Derived.Laws.Bits64
/- Operations of a walk within a fence (a range over a function): loads and stores of arrays; what a loop's body keeps. -/
namespace Go.Proofs.YtdhfabjkpffhnaaDoor
set_option maxRecDepth 20000
open Go.RowKit Go.Shelf ShaMath LeafMath Reg

section
variable {F : Fence} {n : Nat} {P : Program} {w : World} {ops : Array Oper} {rest : List Oper} {o : Oper} {a : Act} {Q : Exit → Act → World → Prop}

theorem wpListIn_load_by (hgd : o.guard = none) (ty : TypeId) (x : Operand) (ho : o.op = .load ty x)
    (p v : Value) (hx : a.eval x = p) (hr : (Instr.loadAt ty p).run P w = .ok v w) (h : wpListIn F n P ops Q rest (a.put o.dst v) w) : wpListIn F n P ops Q (o :: rest) a w := by
  refine wpListIn_plain hgd fun K hK => ?_
  unfold Oper.wpIn
  rw [Oper.semAt_eq _ _ _ (fun c hc => by rw [ho] at hc; cases hc)]
  refine ⟨fun f hf => by simp [Oper.about, ho] at hf, ?_⟩
  simp only [execOp, ho, hx, Sem.run_bind, hr, Result.andThen_ok]
  exact hK _ _ h

theorem wpListIn_store_by (hgd : o.guard = none) (ty : TypeId) (x y : Operand) (ho : o.op = .store ty x y)
    (p v : Value) (hx : a.eval x = p) (hy : a.eval y = v) (w' : World) (hr : (Instr.storeAt ty p v).run P w = .ok () w') (h : wpListIn F n P ops Q rest (a.put o.dst undef) w') : wpListIn F n P ops Q (o :: rest) a w := by
  refine wpListIn_plain hgd fun K hK => ?_
  unfold Oper.wpIn
  rw [Oper.semAt_eq _ _ _ (fun c hc => by rw [ho] at hc; cases hc)]
  refine ⟨fun f hf => by simp [Oper.about, ho] at hf, ?_⟩
  simp only [execOp, ho, hx, hy, Sem.run_bind, hr, Result.andThen_ok]
  exact hK _ _ h
end

theorem Blk.keptBy {W W' : World} {row : Option Nat} {g : Nat} {t : TypeId} {cs : Array Value} (h : Blk W g t cs) (hg : W.grownBy W' row) (hr : ∀ r, row = some r → ∃ o : Obj, W.heap[r]? = some o ∧ o.isCells = false) : Blk W' g t cs :=
  (hg.block g h.lt (fun e => by
    obtain ⟨o, ho, hc⟩ := hr g e.symm
    rw [show W.heap[g]? = _ from h] at ho
    cases ho
    cases hc)).trans h
/-- 'The block holds f s' speaks of cells alone. -/
theorem blk_own {β : Type} (g : Nat) (t : TypeId) (f : β → Array Value) : Own (fun s W => Blk W g t (f s)) := fun _ _ _ _ hs hg hr => hs.keptBy hg hr

theorem keepsFrom_below {B : Nat} {W W' : World} (h : Below W.heap.size W W') : KeepsFrom B W W' :=
  ⟨h.size, fun k _ _ hk _ => (h.block k (Array.getElem?_eq_some_iff.1 hk).1).trans hk⟩
theorem keepsFrom_row {B : Nat} {W : World} {g : Nat} {t : TypeId} {cs : Array Value} (h : Blk W g t cs) (xs : Array Value) : KeepsFrom B W (W.setRow g xs) :=
  ⟨by simp [World.setRow], fun k _ _ hk ho => by
    have hne : k ≠ g := fun e => by
      subst e
      rw [show W.heap[k]? = _ from h] at hk
      cases hk
      cases ho
    unfold World.setRow
    simpa [Array.getElem?_modify, Ne.symm hne] using hk⟩
end Go.Proofs.YtdhfabjkpffhnaaDoor

/- slices.Backward over hashes. -/
namespace Go.Proofs.YtdhfabjkpffhnaaDoor
set_option maxRecDepth 20000
open Go.RowKit Go.Shelf ShaMath LeafMath Reg

attribute [local go_sem] Oper.semAt_some

/-- A hash, with its length. -/
abbrev H32 := { x : Hs // x.length = 32 }
def plain (xs : List H32) : List Hs := xs.map (·.1)
theorem plain_of (hs : List Hs) (h : All32 hs) : ∃ xs, plain xs = hs := ⟨hs.attach.map fun x => ⟨x.1, h x.1 x.2⟩, by simp [plain, List.map_map, Function.comp_def]⟩

/-- The last k of a list, with their places, from the last one on. -/
def backs (xs : List H32) (k : Nat) : List (Nat × H32) := (List.range k).filterMap fun j => (xs[xs.length - 1 - j]?).map fun x => (xs.length - 1 - j, x)
theorem backs_succ (xs : List H32) (k : Nat) (x : H32) (hx : xs[xs.length - 1 - k]? = some x) : backs xs (k + 1) = backs xs k ++ [(xs.length - 1 - k, x)] := by
  simp [backs, List.range_succ, List.filterMap_append, hx]
theorem backs_length (xs : List H32) : ∀ k, k ≤ xs.length → (backs xs k).length = k
  | 0, _ => rfl
  | k + 1, h => by
    rw [backs_succ xs k (xs[xs.length - 1 - k]'(by omega)) (List.getElem?_eq_getElem _), List.length_append, backs_length xs k (by omega)]
    rfl
theorem backs_plain (xs : List H32) : ∀ k, k ≤ xs.length → (backs xs k).map (·.2) = (xs.drop (xs.length - k)).reverse
  | 0, _ => by simp [backs]
  | k + 1, h => by
    rw [backs_succ xs k (xs[xs.length - 1 - k]'(by omega)) (List.getElem?_eq_getElem _), List.map_append, backs_plain xs k (by omega)]
    have e : xs.drop (xs.length - (k + 1)) = xs[xs.length - 1 - k]'(by omega) :: xs.drop (xs.length - k) := by
      rw [List.drop_eq_getElem_cons (by omega)]
      congr 1
      · congr 1
        omega
      · congr 1
        omega
    rw [e]
    simp
theorem backs_all (xs : List H32) : (backs xs xs.length).map (·.2) = xs.reverse := by rw [backs_plain xs _ (Nat.le_refl _)]; simp

/-- What a round keeps: all that was there below n₀, and the box of the slice. -/
def KpB (n₀ g : Nat) (A B : World) : Prop := Below n₀ A B ∧ ∀ t cs, Blk A g t cs → Blk B g t cs
theorem KpB.trans {n₀ g : Nat} {A B C : World} (h : KpB n₀ g A B) (k : KpB n₀ g B C) : KpB n₀ g A C := ⟨h.1.trans k.1, fun t cs hb => k.2 t cs (h.2 t cs hb)⟩

set_option maxRecDepth 100000 in
set_option maxHeartbeats 2000000 in
theorem backward1_in (F : Fence) (n : Nat) (hf : F.fn 98) (hro : F.round = none) (hn : 1 ≤ n) (l Bs n₀ : Nat) (a : Option Addr) (c : Nat) (xs : List H32) (hlen : xs.length ≤ 4398046511104)
    (J Jx : List (Nat × H32) → World → Prop)
    (hY : ∀ pre x W, J pre W → pre.length < xs.length → YieldAt F (n - 1) Tryd.prog l #[.int .i64 (x.1 : Int), .agg (bs x.2.1)] W fun e W' =>
      (e = .returned (.bool true) ∧ J (pre ++ [x]) W' ∧ KpB n₀ Bs W W') ∨ (e = .returned (.bool false) ∧ Jx (pre ++ [x]) W'))
    (W : World) (hBs : Blk W Bs 30 #[.slice a xs.length c]) (hH : ∀ W', Below n₀ W W' → Hss W' (.slice a xs.length c) (plain xs)) (h0 : J [] W) :
    CallsIn F n Tryd.prog 98 #[.func (.yield l) #[] #[], .pointer (some ⟨Bs, 0, none⟩)] W fun e W' => (∃ v, e = .returned v) ∧
      ((∃ ys, ys = backs xs xs.length ∧ J ys W') ∨ (∃ pre, (∃ k, k ≤ xs.length ∧ pre = backs xs k) ∧ Jx pre W')) := by
  obtain ⟨m, hm⟩ : ∃ m, m = xs.length := ⟨_, rfl⟩
  have HM := Lib.hid hm
  rw [← hm] at hBs hlen hH hY ⊢
  refine callsIn_of_wp Tryd.func98 rfl hf ?_ hro
  simp only [Tryd.ntmps98, List.size_toArray, List.length_cons, List.length_nil, Nat.reduceAdd, Nat.reduceSub, Array.replicate_succ, Array.replicate_zero, List.push_toArray, List.append_toArray, List.nil_append, List.cons_append]
  have hc0 : W.cell? ⟨Bs, 0, none⟩ = some (.slice a m c) := by rw [hBs.cell]; rfl
  have hw0 : wrap64 ((m : Int) - 1) = (m : Int) - 1 := by unfold wrap64; omega
  clear hm
  gi_wp2
  gi_loopw [3] (fun i wr => ∃ r : Nat, r ≤ m ∧ i = .int .i64 ((r : Int) - 1) ∧ J (backs xs (m - r)) wr ∧ KpB n₀ Bs W wr) (fun i _ => (intOf i + 1).toNat)
  case atStart => exact ⟨m, Nat.le_refl _, rfl, by rw [Nat.sub_self]; exact h0, Below.refl _ _, fun _ _ h => h⟩
  case round =>
    obtain ⟨r, hr, rfl, hJs, hkp⟩ := hrel
    cases r with
    | zero =>
      have e0 : ((0 : Nat) : Int) - 1 = -1 := rfl
      rw [e0]
      gi_wp2
      go_end0
      exact ⟨⟨_, rfl⟩, .inl ⟨_, by rw [Nat.sub_zero], hJs⟩⟩
    | succ r =>
      have hm := HM.out
      have e1 : (((r + 1 : Nat) : Int) - 1) = (r : Int) := by omega
      rw [e1]
      have hlt : r < xs.length := by omega
      obtain ⟨x, hx⟩ : ∃ x, xs[r]? = some x := ⟨xs[r]'hlt, List.getElem?_eq_getElem _⟩
      have hbk : backs xs (m - (r + 1) + 1) = backs xs (m - (r + 1)) ++ [(r, x)] := by
        have := backs_succ xs (m - (r + 1)) x (by rw [show xs.length - 1 - (m - (r + 1)) = r by omega]; exact hx)
        rwa [show xs.length - 1 - (m - (r + 1)) = r by omega] at this
      obtain ⟨fn, tmps, assign, body, hy, hR⟩ := hY _ (r, x) wr hJs (by rw [backs_length xs _ (by omega)]; omega)
      dsimp only at hy
      have hHr := hH wr hkp.1
      have hpx : (plain xs)[r]? = some x.1 := by simp [plain, hx]
      obtain ⟨ad, rfl, hcx⟩ := hHr.load hpx
      have hld := load_hash wr (ad.add (r * 32)) x.1 x.2 hcx
      have hix := hss_index wr ad m c r (by omega)
      have HLd := Lib.hid hld
      have HBk := Lib.hid hbk
      have hcr : wr.cell? ⟨Bs, 0, none⟩ = some (.slice (some ad) m c) := by rw [(hkp.2 _ _ hBs).cell]; rfl
      clear hld hbk hHr hpx hcx e1 hx hlt hm
      have hw1 : wrap64 ((r : Int) - 1) = (r : Int) - 1 := by unfold wrap64; omega
      gi_wp2_with (refine wpListIn_load_by rfl 24 (.tmp 15) rfl _ _ rfl HLd.out ?_)
      refine hR.mono ?_
      rintro e W3 (⟨rfl, hJ3, hk3⟩ | ⟨rfl, hJx3⟩)
      · gi_wp2
        go_roundw
        case rel => exact ⟨r, by omega, rfl, by rw [show m - r = m - (r + 1) + 1 by omega, HBk.out]; exact hJ3, hkp.trans hk3⟩
        case measure => simp only [intOf]; omega
      · gi_wp2
        refine bodyPost_ret (results_none rfl _ _ _) rfl ?_
        exact ⟨⟨_, rfl⟩, .inr ⟨_, ⟨m - (r + 1) + 1, by omega, rfl⟩, by rw [HBk.out]; exact hJx3⟩⟩

theorem KpB.box {n₀ g : Nat} {A B : World} {t : TypeId} {cs : Array Value} (h : KpB n₀ g A B) (hb : Blk A g t cs) : Blk B g t cs := h.2 t cs hb
theorem kpB_b {n₀ g : Nat} {w : World} (hn : n₀ ≤ w.heap.size) : ∀ (W : World) (l : Nat) (o o' : Obj), w.heap.size ≤ l → W.heap[l]? = some o → o.isCells = false → o.isWalk = false → KpB n₀ g W (W.putObj l o') := fun W l o o' hl ho hc hw =>
  ⟨belowK_b hn W l o o' hl ho hc hw, fun t cs hb => hb.keptBy (grownBy_putObj' W l o') (fun r e => by cases e; exact ⟨o, ho, hc⟩)⟩

theorem backward_stops (F : Fence) (n : Nat) (hf : F.fn 98) (hro : F.round = none) (hn : 1 ≤ n) (Bs n₀ : Nat) (a : Option Addr) (c : Nat) (xs : List H32) (hlen : xs.length ≤ 4398046511104)
    (w : World) (hBs : Blk w Bs 30 #[.slice a xs.length c]) (hn₀ : n₀ ≤ w.heap.size) (hH : ∀ W', Below n₀ w W' → Hss W' (.slice a xs.length c) (plain xs)) :
    SeqStopsK F n Tryd.prog 98 #[.pointer (some ⟨Bs, 0, none⟩)] (fun x : Nat × H32 => #[Value.int .i64 (x.1 : Int), .agg (bs x.2.1)]) (KpB n₀ Bs) (fun ys => ys = backs xs xs.length)
      (fun pre => ∃ k, k ≤ xs.length ∧ pre = backs xs k) xs.length w := fun l J Jx W hW _ _ hY h0 =>
  backward1_in F n hf hro hn l Bs n₀ a c xs hlen J Jx hY W (hBs.keep hW) (fun W' h => hH W' ((hW.mono hn₀).trans h)) h0

set_option maxHeartbeats 1000000 in
theorem backward_in (F : Fence) (n : Nat) (hf : F.fn 79) (hro : F.round = none) (a : Option Addr) (len cap : Nat) (w : World) :
    CallsIn F n Tryd.prog 79 #[.slice a len cap] w fun e w' => e = .returned (.func (.func 98) #[] #[.pointer (some ⟨w.heap.size, 0, none⟩)]) ∧ w' = w.alloc (.cells #[.slice a len cap] 30) := by
  refine callsIn_of_wp Tryd.func79 rfl hf ?_ hro
  simp only [Tryd.ntmps79, List.size_toArray, List.length_cons, List.length_nil, Nat.reduceAdd, Nat.reduceSub, Array.replicate_succ, Array.replicate_zero, List.push_toArray, List.append_toArray, List.nil_append, List.cons_append]
  gi_wp2
  go_ret
  exact ⟨rfl, rfl⟩
end Go.Proofs.YtdhfabjkpffhnaaDoor

/- A hash under a node with each peak ahead of it: the program's over. -/
namespace Go.Proofs.YtdhfabjkpffhnaaDoor
set_option maxRecDepth 20000
open Go.RowKit Go.Shelf ShaMath LeafMath Reg

attribute [local go_sem] Oper.semAt_some

/-- What has come, under a hash. -/
def under (n : Int) (h : Hs) (pre : List (Nat × H32)) : Hs := pre.foldl (fun acc p => nodeH n p.2.1 acc) h
theorem under_snoc (n : Int) (h : Hs) (pre : List (Nat × H32)) (x : Nat × H32) : under n h (pre ++ [x]) = nodeH n x.2.1 (under n h pre) := by simp [under]
theorem under_length (n : Int) (h : Hs) (hh : h.length = 32) (pre : List (Nat × H32)) : (under n h pre).length = 32 := by
  rcases List.eq_nil_or_concat pre with rfl | ⟨q, x, rfl⟩
  · exact hh
  · rw [List.concat_eq_append, under_snoc]
    exact nodeH_length _ _ _
theorem under_all (n : Int) (h : Hs) (xs : List H32) : under n h (backs xs xs.length) = (plain xs).foldr (nodeH n) h := by
  have e : ∀ l : List (Nat × H32), under n h l = ((l.map (·.2)).map (·.1)).foldl (fun acc p => nodeH n p acc) h := fun l => by
    unfold under
    rw [List.foldl_map, List.foldl_map]
  rw [e, backs_all, List.map_reverse, List.foldl_reverse]
  rfl

theorem worldIn_cut {F : Fence} {n : Nat} {P : Program} {c : Code} {Q : Exit → Act → World → Prop} {a : Act} {W : World} (φ : World → Prop) (h : φ W) (k : ∀ W', φ W' → c.wpIn F n P Q a W') : c.wpIn F n P Q a W := k W h

set_option maxRecDepth 100000 in
set_option maxHeartbeats 4000000 in
theorem over_in (n : Int) (ps : List Hs) (a : Option Addr) (m c : Nat) (h : Hs) (w : World) (hn : I64 n) (hv : Hss w (.slice a m c) ps) (hm : m = ps.length) (hm2 : m ≤ 4398046511104) (hh : h.length = 32) (ht : Tabs w) :
    CallsIn Fence.wide 100 Tryd.prog 55 #[.int .i64 n, .slice a m c, .agg (bs h)] w fun e w' => e = .returned (.agg (bs (ps.foldr (nodeH n) h))) ∧ Below w.heap.size w w' := by
  obtain ⟨xs, rfl⟩ := plain_of ps hv.all
  obtain rfl : m = xs.length := by rw [hm]; simp [plain]
  have HV := Lib.hid hv
  have HT := Lib.hid ht
  have HI := Lib.hid hn
  have HH := Lib.hid hh
  obtain ⟨ch, hch⟩ : ∃ ch, ch = bs h := ⟨_, rfl⟩
  have HCh := Lib.hid hch
  rw [← hch]
  clear hv ht hn hh hm hch
  refine callsIn_of_wp_marks Tryd.func55 rfl trivial ?_ rfl
  simp only [Tryd.ntmps55, List.size_toArray, List.length_cons, List.length_nil, Nat.reduceAdd, Nat.reduceSub, Array.replicate_succ, Array.replicate_zero, List.push_toArray, List.append_toArray, List.nil_append, List.cons_append]
  gi_wp2_with fail
  refine ⟨trivial, (backward_in Fence.wide _ trivial rfl _ _ _ _).mono ?_⟩
  rintro e w' ⟨rfl, rfl⟩
  gi_wp2_with fail
  refine worldIn_cut (fun W => Blk W w.heap.size 3 #[.int .i64 n] ∧ Blk W (w.heap.size + 1) 24 ch ∧ Blk W (w.heap.size + 2) 24 (bs (List.replicate 32 0)) ∧ Blk W (w.heap.size + 1 + 1 + 1) 30 #[.slice a xs.length c] ∧ Below w.heap.size w W) ?_ ?_
  · refine ⟨((((Blk.new w _ _).alloc _).alloc _).alloc _), ((Blk.newAt _ _ _ _ _ (by simp) rfl).alloc _).alloc _, (Blk.newAt _ _ _ _ _ (by simp) rfl).alloc _, Blk.newAt _ _ _ _ _ (by simp) rfl, ?_⟩
    exact ((((Below.refl _ _).alloc (Nat.le_refl _) _).alloc (by simp) _).alloc (by simp; omega) _).alloc (by simp; omega) _
  rintro W0 ⟨k0, k1, k2, k3, kb⟩
  have hsz := k3.lt
  rw [HCh.out] at k1
  refine wpIn_rangeFunc_ownH rfl (by decide) (gf := 98) (lb := #[.pointer (some ⟨w.heap.size + 1 + 1 + 1, 0, none⟩)]) rfl trivial (enters_of Tryd.func98 (by kernel_rfl) rfl)
    (backward_stops Fence.wide (100 - 1) trivial rfl (by decide) (w.heap.size + 1 + 1 + 1) w.heap.size a c xs hm2 W0 k3 (by omega) (fun W' h => HV.out.below (Nat.le_refl _) (kb.trans h))) KpB.trans (kpB_b (by omega)) (Below.refl _ _) (fun _ => rfl)
    (fun pre W => ((Blk W w.heap.size 3 #[.int .i64 n] ∧ Blk W (w.heap.size + 1) 24 (bs (under n h pre))) ∧ (Blk W (w.heap.size + 2) 24 (bs (List.replicate 32 0)) ∧ Blk W (w.heap.size + 1 + 1 + 1) 30 #[.slice a xs.length c])) ∧ Below w.heap.size w W)
    (fun _ _ _ => False)
    (OwnFrom.and (OwnFrom.and (OwnFrom.and (Own.from (blk_own _ _ _) _) (Own.from (blk_own _ _ _) _)) (OwnFrom.and (Own.from (blk_own _ _ _) _) (Own.from (blk_own _ _ _) _))) (ownFrom_below (Nat.le_refl _) (by omega)))
    (fun _ _ _ _ _ hs _ _ => hs)
    ⟨⟨⟨k0, k1⟩, k2, k3⟩, kb⟩
    (fun x a' W => ∃ Bx, w.heap.size + 1 + 1 + 1 < Bx ∧ Blk W Bx 24 (bs x.2.1) ∧ a' = { tmps := #[.int .i64 n, .slice a xs.length c, .agg ch, .pointer (some ⟨w.heap.size, 0, none⟩), undef, .pointer (some ⟨w.heap.size + 1, 0, none⟩), .pointer (some ⟨w.heap.size + 1 + 1, 0, none⟩), undef, .pointer (some ⟨Bx, 0, none⟩), .slice a xs.length c, .func (.func 98) #[] #[.pointer (some ⟨w.heap.size + 1 + 1 + 1, 0, none⟩)], .int .i64 (x.1 : Int), .agg (bs x.2.1), undef, undef, undef, undef, undef], defers := [] })
    (fun x a' _ X Y row hs hg hr => by obtain ⟨Bx, h1, h2, h3⟩ := hs; exact ⟨Bx, h1, h2.keptBy hg (fun r e => (hr r e).2), h3⟩)
    ?assign ?body ?done ?stop
  case assign =>
    rintro l pre x W K ⟨⟨⟨b0, b1⟩, b2, b3⟩, hB1⟩ hK
    have hlt := hB1.size
    have hb2 := b2.lt
    obtain ⟨cx, hcx, hcx1, hcxo⟩ := hash_cells x.2.1 x.2.2
    rw [← hcx] at hK ⊢
    have HSx := Lib.hid (size_hash hcx1)
    have HCx := Lib.hid hcx1
    have HOx := Lib.hid hcxo
    have HK := Lib.hid hK
    clear hK hcx hcx1 hcxo
    gi_wp2_with (refine wpListIn_store_by rfl 24 (.tmp 8) (.tmp 12) rfl _ _ rfl rfl _ (Blk.stores (Blk.new W _ _) 24 cx HSx.out (by rw [HCx.out]; rfl) HOx.out) ?_)
    have bn := below_new W (bs (List.replicate 32 0)) cx 24
    exact HK.out _ _ (keepsFrom_below bn) ⟨bn.mono hlt, fun t cs hb => hb.keep bn⟩ ⟨⟨⟨b0.keep bn, b1.keep bn⟩, b2.keep bn, b3.keep bn⟩, hB1.trans (bn.mono hlt)⟩ ⟨W.heap.size, b3.lt, Blk.row (Blk.new W _ _) cx, rfl⟩
  case body =>
    rintro l pre x a' W hl - ⟨⟨⟨b0, b1⟩, b2, b3⟩, hB1⟩ ⟨Bx, hBx, bX, rfl⟩ hlt
    obtain ⟨cx, hcx, hcx1, hcxo⟩ := hash_cells x.2.1 x.2.2
    obtain ⟨cu, hcu, hcu1, hcuo⟩ := hash_cells (under n h pre) (under_length n h HH.out pre)
    obtain ⟨cs, hcs, hcs1, hcso⟩ := hash_cells (under n h (pre ++ [x])) (under_length n h HH.out _)
    have HNode := Lib.hid (node_any n x.2.1 (under n h pre) W HI.out x.2.2 (under_length n h HH.out pre) (HT.out.below (Nat.le_refl _) hB1))
    rw [← under_snoc n h pre x, ← hcs, ← hcu, ← hcx] at HNode
    rw [← hcx] at bX ⊢
    rw [← hcu] at b1
    have hl0 : W.cell? ⟨w.heap.size, 0, none⟩ = some (.int .i64 n) := by rw [b0.cell]; rfl
    have HX := Lib.hid (bX.loads 24 _ Tryd.underlying24 rfl (size_hash hcx1))
    have HU := Lib.hid (b1.loads 24 _ Tryd.underlying24 rfl (size_hash hcu1))
    have HSz := Lib.hid (size_hash hcs1)
    have HSo := Lib.hid hcso
    have HS1 := Lib.hid (hcu1.trans hcs1.symm)
    have HCs := Lib.hid hcs
    have HB := Lib.hid (And.intro b0 (And.intro b1 (And.intro b2 b3)))
    have HB1 := Lib.hid hB1
    clear hcx hcx1 hcxo hcu hcu1 hcuo hcs hcs1 hcso b0 b1 b2 b3 bX hB1
    gi_wp2_with (first
      | (refine wpListIn_load_by rfl 24 (.tmp 8) rfl _ _ rfl HX.out ?_)
      | (refine wpListIn_load_by rfl 24 (.tmp 5) rfl _ _ rfl HU.out ?_))
    refine ⟨trivial, (CallsIn.inRound l (callsIn_wide.2 HNode.out)).mono ?_⟩
    rintro e W3 ⟨rfl, hb3⟩
    obtain ⟨b0, b1, b2, b3⟩ := HB.out
    have hle := HB1.out.size
    have HW3 := Lib.hid (b1.keep hb3)
    have HB3 := Lib.hid hb3
    clear hl0 HX HU hb3 HNode
    gi_wp2_with (refine wpListIn_store_by rfl 24 (.tmp 5) (.tmp 16) rfl _ _ rfl rfl _ (Blk.stores HW3.out 24 cs HSz.out HS1.out HSo.out) ?_)
    have k0 := b0.keep HB3.out
    have k2 := b2.keep HB3.out
    have k3 := b3.keep HB3.out
    refine ⟨(keepsFrom_below HB3.out).trans (keepsFrom_row HW3.out cs), ⟨below_setRow (HB3.out.mono hle) _ _ (by omega), fun t zs hb => (hb.keep HB3.out).rowOther _ (by omega)⟩, ⟨⟨k0.rowOther _ (by omega), ?_⟩, k2.rowOther _ (by omega), k3.rowOther _ (by omega)⟩, below_setRow (HB1.out.trans (HB3.out.mono hle)) _ _ (by omega)⟩
    rw [← HCs.out]
    exact HW3.out.row cs
  case done =>
    rintro D ys W hD rfl ⟨⟨⟨b0, b1⟩, b2, b3⟩, hB1⟩ hK
    rw [under_all] at b1
    have hz : (List.foldr (nodeH n) h (plain xs)).length = 32 := by rw [← under_all]; exact under_length n h HH.out _
    obtain ⟨cs, hcs, hcs1, hcso⟩ := hash_cells (List.foldr (nodeH n) h (plain xs)) hz
    rw [← hcs] at b1
    have HU := Lib.hid (b1.loads 24 _ Tryd.underlying24 rfl (size_hash hcs1))
    have HSt := Lib.hid (Blk.stores (P := Tryd.prog) b2 24 cs (size_hash hcs1) (by rw [hcs1]; rfl) hcso)
    have HCs := Lib.hid hcs
    have HC1 := Lib.hid hcs1
    have HB2 := Lib.hid b2
    have HB := Lib.hid hB1
    have HK := Lib.hid hK
    clear b0 b1 b2 b3 hB1 hcs hcs1 hcso hz hK
    gi_wp2_with (first
      | (refine wpListIn_load_by rfl 24 (.tmp 5) rfl _ _ rfl HU.out ?_)
      | (refine wpListIn_store_by rfl 24 (.tmp 6) (.tmp 17) rfl _ _ rfl rfl _ HSt.out ?_))
    have hK' := (keepsFrom_row (B := 0) HB2.out cs).same D _ (Nat.zero_le _) HK.out rfl
    have hb := HB2.out.row cs
    have hb' : Blk ((W.setRow (w.heap.size + 1 + 1) cs).putObj D (.deferred none)) (w.heap.size + 2) 24 cs := hb.keptBy (grownBy_putObj' _ D _) (fun r e => by cases e; exact ⟨_, hK', rfl⟩)
    refine ⟨by simp, .inl ⟨_, _, rfl, run_takeDeferred hK', ?_⟩⟩
    refine ⟨.agg cs, results_cell_row rfl _ _ (w.heap.size + 2) 24 cs (0, 0) _ rfl hb' Tryd.underlying24 rfl (size_hash HC1.out), by rw [HCs.out], ?_⟩
    exact (below_setRow HB.out _ _ (by omega)).trans (belowK_b (w := w) (Nat.le_refl _) _ D _ _ (by omega) hK' rfl rfl)
  case stop =>
    rintro D q pre W _ _ h _
    exact h.elim

theorem over_any (n : Int) (ps : List Hs) (v : Value) (h : Hs) (w : World) (hn : I64 n) (hv : Hss w v ps) (hm2 : ps.length ≤ 4398046511104) (hh : h.length = 32) (ht : Tabs w) :
    Calls Tryd.prog 55 #[.int .i64 n, v, .agg (bs h)] w fun e w' => e = .returned (.agg (bs (ps.foldr (nodeH n) h))) ∧ Below w.heap.size w w' := by
  obtain ⟨a, c, rfl, _⟩ := hv.form
  exact callsIn_wide.1 (over_in n ps a ps.length c h w hn hv rfl hm2 hh ht)
end Go.Proofs.YtdhfabjkpffhnaaDoor

/- What the program's functions over ranges are to answer. -/
namespace Go.Proofs.YtdhfabjkpffhnaaDoor
set_option maxRecDepth 20000
open Go.RowKit ShaMath LeafMath Reg

/-- math/bits' table of de Bruijn, as a walk holds it. -/
def Bru (w : World) : Prop := ∀ j, j < 64 → w.cell? ⟨0, j, none⟩ = some (.int .u8 (Lib.deBruijn64tab.getD j 0 : Nat))
theorem Bru.below {w w' : World} {B : Nat} (h : Bru w) (hB : w.heap.size ≤ B) (hb : Below B w w') : Bru w' := fun j hj => by
  have h1 := h j hj
  have hlt : 0 < w.heap.size := by
    unfold World.cell? at h1
    rcases hx : w.heap[0]? with _ | o
    · rw [hx] at h1; simp at h1
    · exact (Array.getElem?_eq_some_iff.1 hx).1
  rw [hb.cell (by show 0 < B; omega), h1]

structure RngProg : Prop where
  right : ∀ (s n c : Nat) (a : Option Addr) (w : World), s < 18446744073709551616 →
    Calls Tryd.prog 28 #[.agg (rngC s (.slice a n c))] w fun e w' => e = .returned (.bool (decide (n = ones s))) ∧ Below w.heap.size w w'
  push : ∀ (n : Int) (s : Nat) (v : Value) (ps : List Hs) (h : Hs) (w : World), I64 n → Hss w v ps → h.length = 32 → s < 18446744073709551616 → ps.length ≤ 4398046511104 → Tabs w → Bru w →
    Calls Tryd.prog 24 #[.int .i64 n, .agg (rngC s v), .agg (bs h)] w fun e w' => ∃ v', e = .returned (.tuple #[.agg (rngC (pushR n s ps h).1.1 v'), .int .i64 ((pushR n s ps h).2 : Int)]) ∧ OHs w' w.heap.size v' (pushR n s ps h).1.2 ∧ Below w.heap.size w w'
  peak : ∀ (n : Int) (s : Nat) (v : Value) (ps : List Hs) (w : World), I64 n → Hss w v ps → s < 18446744073709551616 → ps.length ≤ 4398046511104 → Tabs w →
    Calls Tryd.prog 26 #[.int .i64 n, .agg (rngC s v)] w fun e w' => e = .returned (.tuple #[.agg (bs (peakR n s ps).1), .int .i64 ((peakR n s ps).2 : Int)]) ∧ Below w.heap.size w w'
end Go.Proofs.YtdhfabjkpffhnaaDoor

/- The zeros and the ones at a number's lower end; what a leaf that is pushed makes of the peaks, at once. -/
namespace Go.Proofs.YtdhfabjkpffhnaaDoor
set_option maxRecDepth 20000
open Go.RowKit ShaMath LeafMath Reg

/-- How many ones stand at the lower end. -/
def tones (n : Nat) : Nat := if _h : n % 2 = 1 then 1 + tones (n / 2) else 0
termination_by n
decreasing_by omega
theorem tones_odd {n : Nat} (h : n % 2 = 1) : tones n = 1 + tones (n / 2) := by rw [tones, dif_pos h]
theorem tones_even {n : Nat} (h : n % 2 = 0) : tones n = 0 := by rw [tones, dif_neg (by omega)]
theorem tones_ones : ∀ n, tones n ≤ ones n := by
  intro n
  induction n using Nat.strongRecOn with
  | ind n ih =>
    by_cases h : n % 2 = 1
    · rw [tones_odd h, ones_more, h]
      have := ih (n / 2) (by omega)
      omega
    · rw [tones_even (by omega)]
      exact Nat.zero_le _

theorem ctzFrom_tones : ∀ (f s : Nat), s < 2 ^ f → Lib.ctzFrom f (2 ^ f - 1 - s) = tones s
  | 0, s, h => by
    obtain rfl : s = 0 := by simpa using h
    rw [tones_even rfl]
    rfl
  | f + 1, s, h => by
    have hp : 2 ^ (f + 1) = 2 * 2 ^ f := by rw [Nat.pow_succ, Nat.mul_comm]
    have h1 : 1 ≤ 2 ^ f := Nat.pow_pos (by decide)
    rw [hp] at h ⊢
    unfold Lib.ctzFrom
    by_cases ho : s % 2 = 1
    · rw [if_neg (by omega), tones_odd ho, show (2 * 2 ^ f - 1 - s) / 2 = 2 ^ f - 1 - s / 2 by omega, ctzFrom_tones f (s / 2) (by omega)]
    · rw [if_pos (by omega), tones_even (by omega)]
theorem ctz_tones (s : Nat) (h : s < 9223372036854775808) : Lib.ctz 64 (18446744073709551615 - s) = tones s := by
  unfold Lib.ctz
  rw [if_neg (by omega)]
  exact ctzFrom_tones 64 s (by omega)

theorem merge_tones (n : Int) : ∀ (s : Nat) (ps : List Hs) (h : Hs), tones s ≤ ps.length → merge n s ps h = ps.take (ps.length - tones s) ++ [(ps.drop (ps.length - tones s)).foldr (nodeH n) h] := by
  intro s
  induction s using Nat.strongRecOn with
  | ind s ih =>
    intro ps h hl
    by_cases ho : s % 2 = 1
    · rw [tones_odd ho] at hl ⊢
      have hne : ps ≠ [] := fun e => by rw [e] at hl; simp at hl
      obtain ⟨q, x, rfl⟩ : ∃ q x, ps = q ++ [x] := ⟨ps.dropLast, ps.getLast hne, (List.dropLast_concat_getLast hne).symm⟩
      rw [List.length_append, List.length_singleton] at hl ⊢
      rw [merge_odd _ _ _ _ ho, List.dropLast_concat, ih (s / 2) (by omega) q _ (by omega), show q.length + 1 - (1 + tones (s / 2)) = q.length - tones (s / 2) by omega,
        List.take_append_of_le_length (by omega), List.drop_append_of_le_length (by omega), List.foldr_append]
      simp
    · rw [tones_even (by omega), merge_even _ _ _ _ (by omega)]
      simp

theorem tz64_any (x : Nat) (w : World) (hx : x < 18446744073709551616) (hx0 : x ≠ 0) (hb : Bru w) :
    Calls Tryd.prog 54 #[.int .u64 (x : Int)] w fun e w' => e = .returned (.int .i64 (Lib.ctz 64 x : Nat)) ∧ w' = w := by
  obtain ⟨hlow, hk⟩ := Lib.lowest_bit 64 x hx0 hx
  obtain ⟨hi, htab⟩ := Lib.deBruijn64_at _ hk
  have hcell := hb _ hi
  rw [htab] at hcell
  have key := tz64_key x _ hx hx0 hlow
  have e0 : ((x : Int) == 0) = false := by simp; omega
  obtain ⟨k, hkk⟩ : ∃ k, k = Lib.ctz 64 x := ⟨_, rfl⟩
  obtain ⟨idx, hidx⟩ : ∃ i, i = 2 ^ Lib.ctz 64 x * 285870213051353865 % 18446744073709551616 / 288230376151711744 := ⟨_, rfl⟩
  rw [← hidx] at key hi hcell
  rw [← hkk] at hcell hk ⊢
  clear hlow htab hkk hidx hb hx0
  go_enter Tryd.func54, Tryd.ntmps54
  go_wp2_with (simp only [key])
  go_ret
  exact ⟨rfl, rfl⟩
end Go.Proofs.YtdhfabjkpffhnaaDoor

/- The program's Peak. -/
namespace Go.Proofs.YtdhfabjkpffhnaaDoor
set_option maxRecDepth 20000
open Go.RowKit ShaMath LeafMath Reg

set_option maxHeartbeats 1000000 in
set_option maxRecDepth 100000 in
theorem peak_any (n : Int) (hn : I64 n) (s : Nat) (v : Value) (ps : List Hs) (w : World) (hv : Hss w v ps) (hs : s < 18446744073709551616) (hl : ps.length ≤ 4398046511104) (hk : Tabs w) :
    Calls Tryd.prog 26 #[.int .i64 n, .agg (rngC s v)] w fun e w' => e = .returned (.tuple #[.agg (bs (peakR n s ps).1), .int .i64 ((peakR n s ps).2 : Int)]) ∧ Below w.heap.size w w' := by
  obtain ⟨a, c, rfl, hc⟩ := hv.form
  obtain ⟨m, hm⟩ : ∃ m, m = ps.length := ⟨_, rfl⟩
  rw [← hm] at hv hl hc ⊢
  have HR := Lib.hid (fun W => leafRight_any s m c a W hs)
  have HP := Lib.hid (PkW.new w s (.slice a m c))
  have HK := Lib.hid hk
  have HV := Lib.hid hv
  have HM := Lib.hid hm
  obtain ⟨z32, hz32, hz1, hz2⟩ := hash_cells (List.replicate 32 0) rfl
  have HZ := Lib.hid (size_hash hz1)
  have HZ1 := Lib.hid hz1
  have HZ2 := Lib.hid hz2
  by_cases hr : m = ones s
  · have hpk : peakR n s ps = (peakF n ps, 0) := by rw [peakR, if_pos (by omega)]
    rw [hpk]
    by_cases h0 : m = 0
    · subst h0
      have he : peakF n ps = emptyH n := by rw [List.eq_nil_of_length_eq_zero hm.symm]; rfl
      rw [he]
      obtain ⟨cs, hcs, hcl, hone⟩ := hash_cells (emptyH n) (emptyH_length _)
      have HE := Lib.hid (fun (W : World) (h : Below w.heap.size w W) => empty_any n W hn (hk.below (Nat.le_refl _) h))
      rw [← hcs] at HE ⊢
      have HSz := Lib.hid (size_hash hcl)
      have HOne := Lib.hid hone
      have HCl := Lib.hid hcl
      have e1 : decide (0 = ones s) = true := by simpa using hr
      rw [e1] at HR
      clear hv hk hn hm hs hr hpk he hcs hcl hone hz32 hz1 hz2 e1 hl
      go_enter Tryd.func26, Tryd.ntmps26
      go_upto_region 1 with fail
      refine world_cut (fun W => PkW w s (.slice a 0 c) W) HP.out ?_
      clear HP
      intro W1 hW1
      have HW1 := Lib.hid hW1
      clear hW1
      go_wp2_with (refine wpList_load_row rfl 36 (.tmp 3) rfl w.heap.size rfl 36 (rngC s (.slice a 0 c)) (0, 0) _ HW1.out.1 Tryd.underlying36 rfl (size_rng _ _) ?_)
      refine (HR.out _).mono ?_
      rintro e W2 ⟨rfl, hb2⟩
      have hW2 := HW1.out.keep hb2
      have c1 : W2.cell? ⟨w.heap.size, 1, none⟩ = some (.slice a 0 c) := by rw [hW2.1.cell]; rfl
      have HW2 := Lib.hid hW2
      clear hb2 hW2 HW1 HR
      go_wp2_with fail
      clear c1
      refine (HE.out _ HW2.out.2.2).mono ?_
      rintro e W3 ⟨rfl, hb3⟩
      have HW3 := Lib.hid (HW2.out.keep hb3)
      clear hb3 HW2 HE
      obtain ⟨h1, ⟨zs, h2, h3⟩, h4⟩ := HW3.out
      have H2 := Lib.hid h2
      have H3 := Lib.hid h3
      have H4 := Lib.hid h4
      clear h1 h2 h3 h4 HW3
      go_wp2_with (refine wpList_store_row rfl 24 (.tmp 4) (.tmp 16) rfl (w.heap.size + 1) cs rfl rfl 24 _ H2.out HSz.out (by rw [HCl.out, H3.out]) HOne.out ?_)
      exact bodyPost_ret (v := .tuple #[.agg cs, .int .i64 0]) (ret_hash rfl _ _ (w.heap.size + 1) cs _ HCl.out rfl rfl (Blk.row H2.out cs)) rfl ⟨rfl, below_setRow H4.out _ _ (by omega)⟩
    · obtain ⟨qs, x, rfl⟩ : ∃ qs x, ps = qs ++ [x] := by
        have hne : ps ≠ [] := fun e => h0 (by rw [hm, e]; rfl)
        exact ⟨ps.dropLast, ps.getLast hne, (List.dropLast_concat_getLast hne).symm⟩
      have hq : m = qs.length + 1 := by rw [hm]; simp
      obtain ⟨q, hqq⟩ : ∃ q, q = qs.length := ⟨_, rfl⟩
      have hmq : m = q + 1 := by omega
      subst hmq
      have hpf : peakF n (qs ++ [x]) = qs.foldr (nodeH n) x := by simp [peakF]
      rw [hpf]
      have hx : (qs ++ [x])[q]? = some x := by rw [hqq]; simp
      have hx32 : x.length = 32 := hv.all.get hx
      obtain ⟨ad, rfl, hcx⟩ := hv.load hx
      obtain ⟨cx, hcx', hcl, hone⟩ := hash_cells x hx32
      have HLx := Lib.hid (fun (W : World) (hW : Below w.heap.size w W) => load_hash W (ad.add (q * 32)) x hx32 fun j u hj => by
        obtain ⟨ad2, e, h⟩ := (hv.below (Nat.le_refl _) hW).load hx
        cases e
        exact h j u hj)
      have HIx := Lib.hid (fun W => hss_index W ad (q + 1) c q (by omega))
      rw [← hcx'] at HLx
      have HSz := Lib.hid (size_hash hcl)
      have HOne := Lib.hid hone
      have HCl := Lib.hid hcl
      have HCx := Lib.hid hcx'
      have HX32 := Lib.hid hx32
      have HQ := Lib.hid hqq
      have HN := Lib.hid hn
      have HOv := Lib.hid (fun (W : World) (hW : Below w.heap.size w W) => over_any n qs (.slice (some ad) q c) x W hn (by
        have := (hv.below (Nat.le_refl _) hW).sub 0 q (Nat.zero_le _) (by omega)
        rw [sliced_zero] at this
        simpa [hqq] using this) (by omega) hx32 (hk.below (Nat.le_refl _) hW))
      have HSl := Lib.hid (fun W => slice_hs_to (some ad) (q + 1) c q (by omega) W)
      obtain ⟨cf, hcf, hcf1, hcf2⟩ := hash_cells (qs.foldr (nodeH n) x) (fold_32 n qs x hx32)
      have HCf := Lib.hid hcf
      have HCf1 := Lib.hid hcf1
      have HCf2 := Lib.hid hcf2
      rw [← hcf]
      rw [← hcx', ← hcf] at HOv
      rw [sliced_zero] at HSl
      have e1 : decide (q + 1 = ones s) = true := by simpa using hr
      rw [e1] at HR
      have hs' := hs
      clear hv hk hn hm hs hr hpk hpf hcx' hcl hone hz32 hz1 hz2 e1 hx hx32 hcx hq hqq h0 hcf hcf1 hcf2 hs'
      go_enter Tryd.func26, Tryd.ntmps26
      go_upto_region 1 with fail
      refine world_cut (fun W => PkW w s (.slice (some ad) (q + 1) c) W) HP.out ?_
      clear HP
      intro W1 hW1
      have HW1 := Lib.hid hW1
      clear hW1
      obtain ⟨qi, hqi⟩ : ∃ qi : Nat, qi = q + 1 := ⟨_, rfl⟩
      rw [← hqi] at HW1 HV HR HIx HSl ⊢
      have hqi2 : wrap64 ((qi : Int) - 1) = (q : Int) := by unfold wrap64; omega
      have hqi3 : ¬ (qi : Int) = 0 := by omega
      clear hqi
      go_wp2_with (refine wpList_load_row rfl 36 (.tmp 3) rfl w.heap.size rfl 36 (rngC s (.slice (some ad) qi c)) (0, 0) _ HW1.out.1 Tryd.underlying36 rfl (size_rng _ _) ?_)
      refine (HR.out _).mono ?_
      rintro e W2 ⟨rfl, hb2⟩
      have hW2 := HW1.out.keep hb2
      have c1 : W2.cell? ⟨w.heap.size, 1, none⟩ = some (.slice (some ad) qi c) := by rw [hW2.1.cell]; rfl
      have HW2 := Lib.hid hW2
      clear hb2 hW2 HW1 HR
      go_upto_region 6 with fail
      rw [hqi2]
      have hG : ∀ W W' : World, PkW w s (.slice (some ad) qi c) W → Below W.heap.size W W' → PkW w s (.slice (some ad) qi c) W' := fun W W' h h' => h.keep h'
      refine region_tails_by 11 [(21, .is (.int .i64 n)), (22, .is (.pointer (some ⟨w.heap.size, 1, none⟩))), (23, .is (.slice (some ad) qi c)), (24, .is (.int .i64 (q : Int))), (25, .is (.slice (some ad) q c)), (26, .is (.pointer (some ⟨w.heap.size, 1, none⟩))), (27, .is (.slice (some ad) qi c)), (28, .is (.int .i64 (q : Int))), (29, .is (.pointer (some (ad.add (q * 32))))), (30, .is (.agg cx)), (31, .is (.agg cf))] [4, 31]
        (fun W => PkW w s (.slice (some ad) qi c) W) (by kernel_rfl) (by kernel_rfl) (by kernel_rfl) (by kernel_rfl) (by kernel_rfl) (by decide) (by kernel_rfl) (by kernel_rfl) (hG _ _ HW2.out (Below.refl _ _).drew) ?_ ?_
      · refine ⟨?a0, ?a1, ?a2, ?a3, ?a4, ?a5, ?a6, ?a7, ?a8, ?a9, ?a10, trivial⟩
        case a0 => exact ask_copy (guard_none rfl) (.tmp 0) (.inl rfl) (by intro k hk; cases hk; rfl)
        case a1 => exact ask_field (guard_none rfl) _ (.tmp 3) 1 (.pointer (some ⟨w.heap.size, 0, none⟩)) (.pointer (some ⟨w.heap.size, 1, none⟩)) rfl rfl (by intro k hk; cases hk; rfl) (fun W => by kernel_rfl)
        case a2 => exact ask_load (guard_none rfl) _ (.tmp 22) (.pointer (some ⟨w.heap.size, 1, none⟩)) (.slice (some ad) qi c) rfl rfl (by intro k hk; cases hk; rfl) (fun W hW => load_hl W _ _ (by rw [hW.1.cell]; rfl))
        case a3 => exact ask_copy (guard_none rfl) (.tmp 6) (.inl rfl) (by intro k hk; cases hk; rfl)
        case a4 => exact ask_slice (guard_none rfl) 30 (.tmp 23) none (some (.tmp 24)) none (.slice (some ad) qi c) (.slice (some ad) q c) none (some (.int .i64 (q : Int))) none rfl rfl rfl rfl rfl (by intro k hk; cases hk; rfl) HSl.out
        case a5 => exact ask_field (guard_none rfl) _ (.tmp 3) 1 (.pointer (some ⟨w.heap.size, 0, none⟩)) (.pointer (some ⟨w.heap.size, 1, none⟩)) rfl rfl (by intro k hk; cases hk; rfl) (fun W => by kernel_rfl)
        case a6 => exact ask_load (guard_none rfl) _ (.tmp 26) (.pointer (some ⟨w.heap.size, 1, none⟩)) (.slice (some ad) qi c) rfl rfl (by intro k hk; cases hk; rfl) (fun W hW => load_hl W _ _ (by rw [hW.1.cell]; rfl))
        case a7 => exact ask_copy (guard_none rfl) (.tmp 6) (.inl rfl) (by intro k hk; cases hk; rfl)
        case a8 => exact ask_idx (guard_none rfl) _ (.tmp 27) (.tmp 28) (.slice (some ad) qi c) (.int .i64 (q : Int)) (.pointer (some (ad.add (q * 32)))) rfl rfl rfl (by intro k hk; cases hk; rfl) HIx.out
        case a9 => exact ask_load (guard_none rfl) _ (.tmp 29) (.pointer (some (ad.add (q * 32)))) (.agg cx) rfl rfl (by intro k hk; cases hk; rfl) (fun W hW => HLx.out W hW.2.2)
        case a10 => exact ask_call hG (guard_none rfl) _ _ _ #[.int .i64 n, .slice (some ad) q c, .agg cx] (.is (.agg cf)) rfl (by kernel_rfl) rfl rfl (by intro k hk; cases hk; rfl) (fun W hW => (HOv.out W hW.2.2).mono fun e w' h => ⟨_, h.1, rfl, h.2⟩)
      · intro a' W hW hd' hs' hf'
        have t4 : a'.tmps.getD 4 undef = .pointer (some ⟨w.heap.size + 1, 0, none⟩) := hf' 4 rfl
        have t31 : a'.tmps.getD 31 undef = .agg cf := hf' 31 rfl
        obtain ⟨us', hus, ha'⟩ := act_open 32 a' hs' hd'
        rw [← hus] at t4 t31
        have el : ((List.range 32).map us').toArray = #[us' 0, us' 1, us' 2, us' 3, .pointer (some ⟨w.heap.size + 1, 0, none⟩), us' 5, us' 6, us' 7, us' 8, us' 9, us' 10, us' 11, us' 12, us' 13, us' 14, us' 15, us' 16, us' 17, us' 18, us' 19, us' 20, us' 21, us' 22, us' 23, us' 24, us' 25, us' 26, us' 27, us' 28, us' 29, us' 30, .agg cf] := by
          show #[us' 0, us' 1, us' 2, us' 3, us' 4, us' 5, us' 6, us' 7, us' 8, us' 9, us' 10, us' 11, us' 12, us' 13, us' 14, us' 15, us' 16, us' 17, us' 18, us' 19, us' 20, us' 21, us' 22, us' 23, us' 24, us' 25, us' 26, us' 27, us' 28, us' 29, us' 30, us' 31] = _
          rw [t4, t31]
        rw [el] at ha'
        subst ha'
        obtain ⟨-, ⟨zs, h2, h3⟩, h4⟩ := hW
        have H2 := Lib.hid h2
        have H3 := Lib.hid h3
        have H4 := Lib.hid h4
        have HSf := Lib.hid (size_hash HCf1.out)
        clear hus t4 t31 el hf' hs' hd' hG h2 h3 h4 c1 HW2
        simp only [List.drop_succ_cons, List.drop_zero]
        go_wp2_with (refine wpList_store_row rfl 24 (.tmp 4) (.tmp 31) rfl (w.heap.size + 1) cf rfl rfl 24 _ H2.out HSf.out (by rw [HCf1.out, H3.out]) HCf2.out ?_)
        exact bodyPost_ret (v := .tuple #[.agg cf, .int .i64 0]) (ret_hash rfl _ _ (w.heap.size + 1) cf _ HCf1.out rfl rfl (Blk.row H2.out cf)) rfl ⟨rfl, below_setRow H4.out _ _ (by omega)⟩
  · have hpk : peakR n s ps = (List.replicate 32 0, 1) := by rw [peakR, if_neg (by omega)]
    rw [hpk]
    have e1 : decide (m = ones s) = false := by simpa using hr
    rw [e1] at HR
    rw [← hz32]
    clear hv hk hn hm hs hr hpk hz1 hz2 e1 hl
    go_enter Tryd.func26, Tryd.ntmps26
    go_upto_region 1 with fail
    refine world_cut (fun W => PkW w s (.slice a m c) W) HP.out ?_
    clear HP
    intro W1 hW1
    have HW1 := Lib.hid hW1
    have HZe := Lib.hid hz32
    clear hW1 hz32
    go_wp2_with (refine wpList_load_row rfl 36 (.tmp 3) rfl w.heap.size rfl 36 (rngC s (.slice a m c)) (0, 0) _ HW1.out.1 Tryd.underlying36 rfl (size_rng _ _) ?_)
    refine (HR.out _).mono ?_
    rintro e W2 ⟨rfl, hb2⟩
    have hW2 := HW1.out.keep hb2
    obtain ⟨h1, ⟨zs, h2, h3⟩, h4⟩ := hW2
    have H2 := Lib.hid h2
    have H3 := Lib.hid h3
    have H4 := Lib.hid h4
    clear hb2 h1 h2 h3 h4 HW1 HR
    go_wp2_with (refine wpList_store_row rfl 24 (.tmp 4) (.tmp 10) rfl (w.heap.size + 1) z32 rfl (by rw [HZe.out]; rfl) 24 _ H2.out HZ.out (by rw [HZ1.out, H3.out]) HZ2.out ?_)
    exact bodyPost_ret (v := .tuple #[.agg z32, .int .i64 1]) (ret_hash rfl _ _ (w.heap.size + 1) z32 _ HZ1.out rfl rfl (Blk.row H2.out z32)) rfl ⟨rfl, below_setRow H4.out _ _ (by omega)⟩
end Go.Proofs.YtdhfabjkpffhnaaDoor

/- The program's Push. -/
namespace Go.Proofs.YtdhfabjkpffhnaaDoor
set_option maxRecDepth 20000
open Go.RowKit ShaMath LeafMath Reg

theorem not64 (s : Nat) (hs : s < 18446744073709551616) : bits .xor .u64 (18446744073709551615 : Int) (s : Int) = ((18446744073709551615 - s : Nat) : Int) := by
  rw [show (18446744073709551615 : Int) = ((18446744073709551615 : Nat) : Int) from rfl, bits_xor_u64_nat _ _ (by decide) hs]
  have h := congrArg BitVec.toNat (BitVec.allOnes_xor (x := BitVec.ofNat 64 s))
  rw [BitVec.toNat_xor, BitVec.toNat_not, BitVec.toNat_allOnes, BitVec.toNat_ofNat, Nat.mod_eq_of_lt (by omega)] at h
  exact congrArg Int.ofNat h

theorem add_u64 (x z : Nat) (t : TypeId) (a b : Operand) (hz : (x : Int) + 1 = z) (hb : z < 18446744073709551616) (W : World) : (do eqGuard .add t a b (.int .u64 (x : Int)) (.int .u64 1); binOp .add t (.int .u64 (x : Int)) (.int .u64 1) : Sem Value).run Tryd.prog W = .ok (.int .u64 (z : Int)) W := by
  have h : IntKind.u64.wrap ((x : Int) + 1) = (z : Int) := by
    rw [IntKind.wrap_u64]
    omega
  simp [eqGuard, binOp, go_sem, h]

theorem PuW.row {w W : World} {s : Nat} {v : Value} {h : Hs} (H : PuW w s v h W) (g : Nat) (cs : Array Value) (hg : w.heap.size + 3 ≤ g) : PuW w s v h (W.setRow g cs) := by
  obtain ⟨h1, h0, ⟨zs, h2, h3⟩, h4⟩ := H
  exact ⟨h1.rowOther _ (by omega), h0.rowOther _ (by omega), ⟨zs, h2.rowOther _ (by omega), h3⟩, below_setRow h4 _ _ (by omega)⟩

def hpartsF (n : Nat) (ls : List (List Hs)) : Fact := .sat (fun v W => ∃ g, v = .slice (some ⟨g, 0, none⟩) n n ∧ HParts W g ls) fun _ _ _ ⟨g, h1, h2⟩ hb => ⟨g, h1, h2.below (Nat.le_refl _) hb⟩

section
variable {ops : Array Oper} {tab : List (List Nat)} {fin : List Tmp} {G : World → Prop} {f : Tmp → Fact} {i : Nat} {o : Oper}
theorem ask_not64 (hg : guardOk ops f o) (ty : TypeId) (s : Operand) (z zn : Nat) (hz : zn = 18446744073709551615 - z) (ho : o.op = .unOp .xor ty s) (hs : opFact f s = .is (.int .u64 (z : Int))) (hd : ∀ k, o.dst = some k → f k = .is (.int .u64 (zn : Int))) (hlt : z < 18446744073709551616) : Asked Tryd.prog ops tab fin G f i o := by
  refine ask_val hg (.int .u64 (zn : Int)) hd fun y W _ hk => ?_
  have e1 := evalBy_opVal hk s (by rw [ho]; simp [Op.operands]) hs
  have h := not64 z hlt
  rw [← hz] at h
  simp [execOp, ho, e1, go_sem]
  exact h

theorem range_two : Array.range 2 = #[0, 1] := by decide
theorem ask_build_two (hG : ∀ W W', G W → Below W.heap.size W W' → G W') (hg : guardOk ops f o) (s0 s1 : Operand) (l0 l1 : List Hs)
    (ho : o.op = .buildSlice 104 2 #[(0, s0), (1, s1)]) (h : ∀ x W, G W → Told ops f o x W → Hss W (evalBy x s0) l0 ∧ Hss W (evalBy x s1) l1)
    (hd : ∀ k, o.dst = some k → f k = hpartsF 2 [l0, l1]) : Asked Tryd.prog ops tab fin G f i o := by
  refine ask_grow hG hg fun x W hW hk => ?_
  obtain ⟨h0, h1⟩ := h x W hW hk
  obtain ⟨a0, c0, e0, _⟩ := h0.form
  obtain ⟨a1, c1, e1, _⟩ := h1.form
  rw [e0] at h0
  rw [e1] at h1
  have hz : (zeroValue 30).run Tryd.prog W = .ok (.slice none 0 0) W := by kernel_rfl
  have hs : (Go.sizeOf 30).run Tryd.prog W = .ok 1 W := by kernel_rfl
  have hr : (Instr.buildSlice 104 2 #[(0, .slice a0 l0.length c0), (1, .slice a1 l1.length c1)]).run Tryd.prog W = .ok (.slice (some ⟨W.heap.size, 0, none⟩) 2 2) (W.alloc (.cells #[.slice a0 l0.length c0, .slice a1 l1.length c1] 30)) := by
    simp [Instr.buildSlice, run_underlying Tryd.underlying104, Result.andThen, hz, hs, Instr.fill, newRow, Value.cells, range_two]
  have hb : Below W.heap.size W (W.alloc (.cells #[.slice a0 l0.length c0, .slice a1 l1.length c1] 30)) := (Below.refl _ _).alloc (Nat.le_refl _) _
  have hn : Blk (W.alloc (.cells #[.slice a0 l0.length c0, .slice a1 l1.length c1] 30)) W.heap.size 30 #[.slice a0 l0.length c0, .slice a1 l1.length c1] := Blk.new _ _ _
  refine gives_value (v := .slice (some ⟨W.heap.size, 0, none⟩) 2 2) (w' := W.alloc (.cells #[.slice a0 l0.length c0, .slice a1 l1.length c1] 30)) ?_ ⟨hb, fun k hk => by
    rw [hd k hk]
    refine ⟨_, rfl, fun i hi => ?_⟩
    have hi2 : i < 2 := hi
    rcases i with _ | _ | i
    · exact ⟨_, by rw [hn.cell]; rfl, h0.below (Nat.le_refl _) hb⟩
    · exact ⟨_, by rw [hn.cell]; rfl, h1.below (Nat.le_refl _) hb⟩
    · omega⟩
  simp [execOp, ho, hr, e0, e1, Result.andThen]
end

set_option maxHeartbeats 2000000 in
set_option maxRecDepth 100000 in
theorem push_any (n : Int) (hn : I64 n) (s : Nat) (v : Value) (ps : List Hs) (h : Hs) (w : World) (hv : Hss w v ps) (hh : h.length = 32) (hs : s < 18446744073709551616) (hl : ps.length ≤ 4398046511104) (hk : Tabs w) (hbu : Bru w) :
    Calls Tryd.prog 24 #[.int .i64 n, .agg (rngC s v), .agg (bs h)] w fun e w' => ∃ v', e = .returned (.tuple #[.agg (rngC (pushR n s ps h).1.1 v'), .int .i64 ((pushR n s ps h).2 : Int)]) ∧ OHs w' w.heap.size v' (pushR n s ps h).1.2 ∧ Below w.heap.size w w' := by
  obtain ⟨a, c, rfl, hc⟩ := hv.form
  obtain ⟨m, hm⟩ : ∃ m, m = ps.length := ⟨_, rfl⟩
  rw [← hm] at hv hl hc ⊢
  have HR := Lib.hid (fun W => leafRight_any s m c a W hs)
  have HP := PuW.new w s (.slice a m c) h
  obtain ⟨ch, hch, hch1, _⟩ := hash_cells h hh
  rw [← hch] at HP ⊢
  have HP := Lib.hid HP
  have HK := Lib.hid hk
  have HV := Lib.hid hv
  have HM := Lib.hid hm
  have HCh := Lib.hid hch
  have HSh := Lib.hid (size_hash hch1)
  have HH := Lib.hid hh
  have HN := Lib.hid hn
  by_cases hr : m = ones s
  · have e1 : decide (m = ones s) = true := by simpa using hr
    rw [e1] at HR
    by_cases h63 : s < 9223372036854775808
    · have hpk : pushR n s ps h = ((s + 1, merge n s ps h), 0) := by rw [pushR, if_pos ⟨by omega, h63⟩]
      rw [hpk]
      have HOnes := Lib.hid (show ps.length = ones s by omega)
      have h64 := ones_64 s hs
      have hm64 : m ≤ 64 := by omega
      have hge : decide ((s : Int) ≥ 9223372036854775808) = false := decide_eq_false (by omega)
      have hs1 : (s : Int) + 1 = ((s + 1 : Nat) : Int) := by omega
      obtain ⟨S1, hS1⟩ : ∃ S1 : Nat, S1 = s + 1 := ⟨_, rfl⟩
      rw [← hS1] at hs1 ⊢
      have hS1b : S1 ≤ 9223372036854775808 := by omega
      have hto : tones s ≤ m := by rw [hr]; exact tones_ones s
      obtain ⟨t, htt⟩ : ∃ t, t = tones s := ⟨_, rfl⟩
      rw [← htt] at hto
      obtain ⟨r, hrr⟩ : ∃ r, r = m - t := ⟨_, rfl⟩
      have hmt : (m : Int) - (t : Int) = (r : Int) := by omega
      have hrb : -4611686018427387904 ≤ (r : Int) ∧ (r : Int) ≤ 4611686018427387904 := by omega
      have hrm : r ≤ m := by omega
      obtain ⟨sn, hsn⟩ : ∃ sn : Nat, sn = 18446744073709551615 - s := ⟨_, rfl⟩
      have HTz := Lib.hid (fun (W : World) (hW : Below w.heap.size w W) => tz64_any sn W (by omega) (by omega) (hbu.below (Nat.le_refl _) hW))
      rw [show Lib.ctz 64 sn = t by rw [hsn, htt]; exact ctz_tones s h63] at HTz
      obtain ⟨last, hlast⟩ : ∃ last, last = (ps.drop r).foldr (nodeH n) h := ⟨_, rfl⟩
      have hl32 : last.length = 32 := by rw [hlast]; exact fold_32 n _ h hh
      have hmg : merge n s ps h = ps.take r ++ [last] := by rw [merge_tones n s ps h (by omega), hlast, hrr, ← hm, htt]
      rw [hmg]
      have hfrom := hv.sub r m hrm (Nat.le_refl _)
      rw [List.take_of_length_le (by omega)] at hfrom
      have hto2 := hv.sub 0 r (Nat.zero_le _) hrm
      rw [sliced_zero, List.drop_zero] at hto2
      obtain ⟨vf, hvf⟩ : ∃ vf, vf = sliced a r m c 32 := ⟨_, rfl⟩
      rw [← hvf] at hfrom
      have HFr := Lib.hid (show ∀ W, (Instr.sliceAt 30 (.slice a m c) (some (.int .i64 (r : Int))) none none).run Tryd.prog W = .ok vf W from fun W => by rw [hvf]; exact slice_hs_from a m c r hrm W)
      have HTo := Lib.hid (show ∀ W, (Instr.sliceAt 30 (.slice a m c) none (some (.int .i64 (r : Int))) none).run Tryd.prog W = .ok (.slice a r c) W from fun W => by rw [slice_hs_to a m c r (by omega) W, sliced_zero])
      have HOv := Lib.hid (fun (W : World) (hW : Below w.heap.size w W) => over_any n (ps.drop r) vf h W hn (hfrom.below (Nat.le_refl _) hW) (by rw [List.length_drop]; omega) hh (hk.below (Nat.le_refl _) hW))
      obtain ⟨cl, hcl, hcl1, hcl2⟩ := hash_cells last hl32
      rw [← hlast, ← hcl, ← hch] at HOv
      have HT2 := Lib.hid hto2
      have HCl := Lib.hid hcl
      have HL1 := Lib.hid hcl1
      have HL2 := Lib.hid hcl2
      have HL32 := Lib.hid hl32
      have HLt := Lib.hid (show (ps.take r ++ [last]).length = r + 1 by rw [List.length_append, List.length_take, List.length_singleton]; omega)
      have hgt : decide ((s : Int) > 9223372036854775807) = false := decide_eq_false (by omega)
      clear hv hk hm hr hpk e1 hch hch1 hh hn h64 hS1 hlast hl32 hmg hfrom hto2 hvf hcl hcl1 hcl2 hto htt hrr hge HOnes
      go_enter Tryd.func24, Tryd.ntmps24
      go_upto_region 1 with fail
      refine world_cut (fun W => PuW w s (.slice a m c) h W) HP.out ?_
      clear HP
      intro W1 hW1
      have HW1 := Lib.hid hW1
      clear hW1
      go_wp2_with (refine wpList_load_row rfl 36 (.tmp 4) rfl w.heap.size rfl 36 (rngC s (.slice a m c)) (0, 0) _ HW1.out.1 Tryd.underlying36 rfl (size_rng _ _) ?_)
      refine (HR.out _).mono ?_
      rintro e W2 ⟨rfl, hb2⟩
      have hW2 := HW1.out.keep hb2
      have c0 : W2.cell? ⟨w.heap.size, 0, none⟩ = some (.int .u64 (s : Int)) := by rw [hW2.1.cell]; rfl
      have HW2 := Lib.hid hW2
      clear hb2 hW2 HW1 HR
      go_upto_region 3 with fail
      clear c0
      have hG : ∀ W W' : World, PuW w s (.slice a m c) h W → Below W.heap.size W W' → PuW w s (.slice a m c) h W' := fun W W' h h' => h.keep h'
      have hB : ∀ W : World, PuW w s (.slice a m c) h W → w.heap.size + 3 ≤ W.heap.size := fun W h => h.lt
      refine region_by [(19, .is (.pointer (some ⟨w.heap.size, 1, none⟩))), (20, .is (.slice a m c)), (21, .is (.int .i64 (m : Int))), (22, .is (.pointer (some ⟨w.heap.size, 0, none⟩))), (23, .is (.int .u64 (s : Int))), (24, .is (.int .u64 (sn : Int))), (25, .is (.int .i64 (t : Int))), (26, .is (.int .i64 (r : Int))), (8, .is (.int .i64 (r : Int)))] [0, 4, 5, 6, 7, 8]
        (fun W => PuW w s (.slice a m c) h W) (by kernel_rfl) (by kernel_rfl) (by kernel_rfl) (by kernel_rfl) (by kernel_rfl) (hG _ _ HW2.out (Below.refl _ _).drew) ?_ ?_
      · refine ⟨?a0, ?a1, ?a2, ?a3, ?a4, ?a5, ?a6, ?a7, ?a8, trivial⟩
        case a0 => exact ask_field (guard_none rfl) _ (.tmp 4) 1 (.pointer (some ⟨w.heap.size, 0, none⟩)) (.pointer (some ⟨w.heap.size, 1, none⟩)) rfl rfl (by intro k hk; cases hk; rfl) (fun W => by kernel_rfl)
        case a1 => exact ask_load (guard_none rfl) _ (.tmp 19) (.pointer (some ⟨w.heap.size, 1, none⟩)) (.slice a m c) rfl rfl (by intro k hk; cases hk; rfl) (fun W hW => load_hl W _ _ (by rw [hW.1.cell]; rfl))
        case a2 => exact ask_len (guard_none rfl) (.tmp 20) _ a m c rfl (by kernel_rfl) rfl (by intro k hk; cases hk; rfl)
        case a3 => exact ask_field (guard_none rfl) _ (.tmp 4) 0 (.pointer (some ⟨w.heap.size, 0, none⟩)) (.pointer (some ⟨w.heap.size, 0, none⟩)) rfl rfl (by intro k hk; cases hk; rfl) (fun W => by kernel_rfl)
        case a4 => exact ask_load (guard_none rfl) _ (.tmp 22) (.pointer (some ⟨w.heap.size, 0, none⟩)) (.int .u64 (s : Int)) rfl rfl (by intro k hk; cases hk; rfl) (fun W hW => load_u64b W _ _ (by rw [hW.1.cell]; rfl))
        case a5 => exact ask_not64 (guard_none rfl) _ (.tmp 23) s sn hsn rfl rfl (by intro k hk; cases hk; rfl) hs
        case a6 => exact ask_call hG (guard_none rfl) _ _ _ #[.int .u64 (sn : Int)] (.is (.int .i64 (t : Int))) rfl (by kernel_rfl) rfl rfl (by intro k hk; cases hk; rfl) (fun W hW => (HTz.out W hW.2.2.2).mono fun e w' h => ⟨_, h.1, rfl, by rw [h.2]; exact Below.refl _ _⟩)
        case a7 => exact ask_bin (guard_none rfl) .sub _ _ (.tmp 21) (.tmp 25) (.int .i64 (m : Int)) (.int .i64 (t : Int)) (.int .i64 (r : Int)) rfl rfl rfl (by intro k hk; cases hk; rfl) (fun W => sub_i64 _ _ _ _ _ _ hmt hrb W)
        case a8 => exact ask_copy (guard_none rfl) (.tmp 26) (.inr rfl) (by intro k hk; cases hk; rfl)
      intro a' W3 hW hd' hs' hf'
      have t0 : a'.tmps.getD 0 undef = .int .i64 n := hf' 0 rfl
      have t4 : a'.tmps.getD 4 undef = .pointer (some ⟨w.heap.size, 0, none⟩) := hf' 4 rfl
      have t5 : a'.tmps.getD 5 undef = .pointer (some ⟨w.heap.size + 1, 0, none⟩) := hf' 5 rfl
      have t6 : a'.tmps.getD 6 undef = .pointer (some ⟨w.heap.size + 2, 0, none⟩) := hf' 6 rfl
      have t7 : a'.tmps.getD 7 undef = .int .i64 0 := hf' 7 rfl
      have t8 : a'.tmps.getD 8 undef = .int .i64 (r : Int) := hf' 8 rfl
      obtain ⟨us', hus, ha'⟩ := act_open 46 a' hs' hd'
      rw [← hus] at t0 t4 t5 t6 t7 t8
      have el : ((List.range 46).map us').toArray = #[.int .i64 n, us' 1, us' 2, us' 3, .pointer (some ⟨w.heap.size, 0, none⟩), .pointer (some ⟨w.heap.size + 1, 0, none⟩), .pointer (some ⟨w.heap.size + 2, 0, none⟩), .int .i64 0, .int .i64 (r : Int), us' 9, us' 10, us' 11, us' 12, us' 13, us' 14, us' 15, us' 16, us' 17, us' 18, us' 19, us' 20, us' 21, us' 22, us' 23, us' 24, us' 25, us' 26, us' 27, us' 28, us' 29, us' 30, us' 31, us' 32, us' 33, us' 34, us' 35, us' 36, us' 37, us' 38, us' 39, us' 40, us' 41, us' 42, us' 43, us' 44, us' 45] := by
        show #[us' 0, us' 1, us' 2, us' 3, us' 4, us' 5, us' 6, us' 7, us' 8, us' 9, us' 10, us' 11, us' 12, us' 13, us' 14, us' 15, us' 16, us' 17, us' 18, us' 19, us' 20, us' 21, us' 22, us' 23, us' 24, us' 25, us' 26, us' 27, us' 28, us' 29, us' 30, us' 31, us' 32, us' 33, us' 34, us' 35, us' 36, us' 37, us' 38, us' 39, us' 40, us' 41, us' 42, us' 43, us' 44, us' 45] = _
        rw [t0, t4, t5, t6, t7, t8]
      rw [el] at ha'
      subst ha'
      have HW3 := Lib.hid hW
      clear hus t0 t4 t5 t6 t7 t8 el hf' hs' hd' hW HW2
      go_upto_region 4 with fail
      refine region_late_by 8 _ _ rfl [(27, .is (.int .i64 n)), (28, .is (.pointer (some ⟨w.heap.size, 1, none⟩))), (29, .is (.slice a m c)), (30, .is (.int .i64 (r : Int))), (31, .is vf), (32, .is (.agg ch)), (33, .is (.agg cl)), (9, varF (w.heap.size + 3) 24 (bs (List.replicate 32 0)))] [0, 4, 6, 7, 8, 9, 33]
        (fun W => PuW w s (.slice a m c) h W) (by kernel_rfl) (by kernel_rfl) (by kernel_rfl) (by kernel_rfl) (fun k fk hk => .inl (lookup_ops (by kernel_rfl) hk)) rfl rfl rfl (by kernel_rfl) (hG _ _ HW3.out (Below.refl _ _).drew) ?_ ?_
      · refine ⟨?a0, ?a1, ?a2, ?a3, ?a4, ?a5, ?a6, ?a7, trivial⟩
        case a0 => exact Asked.late (ask_copy (guard_none rfl) (.tmp 0) (.inl rfl) (by intro k hk; cases hk; rfl))
        case a1 => exact Asked.late (ask_field (guard_none rfl) _ (.tmp 4) 1 (.pointer (some ⟨w.heap.size, 0, none⟩)) (.pointer (some ⟨w.heap.size, 1, none⟩)) rfl rfl (by intro k hk; cases hk; rfl) (fun W => by kernel_rfl))
        case a2 => exact Asked.late (ask_load (guard_none rfl) _ (.tmp 28) (.pointer (some ⟨w.heap.size, 1, none⟩)) (.slice a m c) rfl rfl (by intro k hk; cases hk; rfl) (fun W hW => load_hl W _ _ (by rw [hW.1.cell]; rfl)))
        case a3 => exact Asked.late (ask_copy (guard_none rfl) (.tmp 8) (.inl rfl) (by intro k hk; cases hk; rfl))
        case a4 => exact Asked.late (ask_slice (guard_none rfl) 30 (.tmp 29) (some (.tmp 30)) none none (.slice a m c) vf (some (.int .i64 (r : Int))) none none rfl rfl rfl rfl rfl (by intro k hk; cases hk; rfl) HFr.out)
        case a5 => exact Asked.late (ask_load (guard_none rfl) _ (.tmp 5) (.pointer (some ⟨w.heap.size + 1, 0, none⟩)) (.agg ch) rfl rfl (by intro k hk; cases hk; rfl) (fun W hW => by rw [HCh.out]; exact hW.2.1.loads 24 _ Tryd.underlying24 rfl (by rw [← HCh.out]; exact HSh.out)))
        case a6 => exact Asked.late (ask_call hG (guard_none rfl) _ _ _ #[.int .i64 n, vf, .agg ch] (.is (.agg cl)) rfl (by kernel_rfl) rfl rfl (by intro k hk; cases hk; rfl) (fun W hW => (HOv.out W hW.2.2.2).mono fun e w' h => ⟨_, h.1, rfl, h.2⟩))
        case a7 => exact Asked.late (ask_alloc hG (guard_none rfl) _ (.agg (bs (List.replicate 32 0))) (varF (w.heap.size + 3) 24 (bs (List.replicate 32 0))) rfl (fun W => by kernel_rfl) (by intro k hk; cases hk; rfl) (fun W hW => ⟨_, rfl, hB W hW, Blk.new W _ _⟩))
      intro a' W4 hW hd' hs' hf'
      have t0 : a'.tmps.getD 0 undef = .int .i64 n := hf' 0 rfl
      have t4 : a'.tmps.getD 4 undef = .pointer (some ⟨w.heap.size, 0, none⟩) := hf' 4 rfl
      have t6 : a'.tmps.getD 6 undef = .pointer (some ⟨w.heap.size + 2, 0, none⟩) := hf' 6 rfl
      have t7 : a'.tmps.getD 7 undef = .int .i64 0 := hf' 7 rfl
      have t8 : a'.tmps.getD 8 undef = .int .i64 (r : Int) := hf' 8 rfl
      have t33 : a'.tmps.getD 33 undef = .agg cl := hf' 33 rfl
      have t9 : ∃ g, a'.tmps.getD 9 undef = .pointer (some ⟨g, 0, none⟩) ∧ w.heap.size + 3 ≤ g ∧ Blk W4 g 24 (bs (List.replicate 32 0)) := hf' 9 rfl
      obtain ⟨us', hus, ha'⟩ := act_open 46 a' hs' hd'
      rw [← hus] at t0 t4 t6 t7 t8 t9 t33
      obtain ⟨g9, e9, hg9, hb9⟩ := t9
      have el : ((List.range 46).map us').toArray = #[.int .i64 n, us' 1, us' 2, us' 3, .pointer (some ⟨w.heap.size, 0, none⟩), us' 5, .pointer (some ⟨w.heap.size + 2, 0, none⟩), .int .i64 0, .int .i64 (r : Int), .pointer (some ⟨g9, 0, none⟩), us' 10, us' 11, us' 12, us' 13, us' 14, us' 15, us' 16, us' 17, us' 18, us' 19, us' 20, us' 21, us' 22, us' 23, us' 24, us' 25, us' 26, us' 27, us' 28, us' 29, us' 30, us' 31, us' 32, .agg cl, us' 34, us' 35, us' 36, us' 37, us' 38, us' 39, us' 40, us' 41, us' 42, us' 43, us' 44, us' 45] := by
        show #[us' 0, us' 1, us' 2, us' 3, us' 4, us' 5, us' 6, us' 7, us' 8, us' 9, us' 10, us' 11, us' 12, us' 13, us' 14, us' 15, us' 16, us' 17, us' 18, us' 19, us' 20, us' 21, us' 22, us' 23, us' 24, us' 25, us' 26, us' 27, us' 28, us' 29, us' 30, us' 31, us' 32, us' 33, us' 34, us' 35, us' 36, us' 37, us' 38, us' 39, us' 40, us' 41, us' 42, us' 43, us' 44, us' 45] = _
        rw [t0, t4, t6, t7, t8, e9, t33]
      rw [el] at ha'
      subst ha'
      have HW4 := Lib.hid hW
      have HG9 := Lib.hid hg9
      have HB9 := Lib.hid hb9
      have HSl := Lib.hid (size_hash HL1.out)
      clear hus t0 t4 t6 t7 t8 e9 t33 el hf' hs' hd' hW hg9 hb9 HW3
      go_upto_region 5 with (refine wpList_store_row rfl 24 (.tmp 9) (.tmp 33) rfl g9 cl rfl rfl 24 _ HB9.out HSl.out (by rw [HL1.out]; rfl) HL2.out ?_)
      have hW5 : PuW w s (.slice a m c) h (W4.setRow g9 cl) := HW4.out.row g9 cl HG9.out
      refine world_cut (fun W => PuW w s (.slice a m c) h W ∧ Blk W g9 24 cl) ⟨hW5, HB9.out.row cl⟩ ?_
      clear hW5 HB9 HW4
      intro W5 hW5
      have HW5 := Lib.hid hW5
      clear hW5
      have hG2 : ∀ W W' : World, (PuW w s (.slice a m c) h W ∧ Blk W g9 24 cl) → Below W.heap.size W W' → (PuW w s (.slice a m c) h W' ∧ Blk W' g9 24 cl) := fun W W' h h' => ⟨h.1.keep h', h.2.keep h'⟩
      have hB2 : ∀ W : World, (PuW w s (.slice a m c) h W ∧ Blk W g9 24 cl) → w.heap.size + 3 ≤ W.heap.size := fun W h => h.1.lt
      refine region_tails_by 12 [(34, .is (.pointer (some ⟨w.heap.size, 0, none⟩))), (35, .is (.int .u64 (s : Int))), (36, .is (.int .u64 (S1 : Int))), (37, .is (.pointer (some ⟨w.heap.size, 1, none⟩))), (38, .is (.slice a m c)), (39, .is (.int .i64 (r : Int))), (40, .is (.slice a r c)), (41, .is (.agg cl)), (42, hssF [last]), (43, hpartsF 2 [ps.take r, [last]]), (44, prefF (w.heap.size + 3) (r + 1) (ps.take r ++ [last])), (45, rngF (w.heap.size + 3) S1 (r + 1) (ps.take r ++ [last]))] [6, 45]
        (fun W => PuW w s (.slice a m c) h W ∧ Blk W g9 24 cl) (by kernel_rfl) (by kernel_rfl) (by kernel_rfl) (by kernel_rfl) (by kernel_rfl) (by decide) (by kernel_rfl) (by kernel_rfl) (hG2 _ _ HW5.out (Below.refl _ _).drew) ?_ ?_
      · refine ⟨?a0, ?a1, ?a2, ?a3, ?a4, ?a5, ?a6, ?a7, ?a8, ?a9, ?a10, ?a11, trivial⟩
        case a0 => exact ask_field (guard_none rfl) _ (.tmp 4) 0 (.pointer (some ⟨w.heap.size, 0, none⟩)) (.pointer (some ⟨w.heap.size, 0, none⟩)) rfl rfl (by intro k hk; cases hk; rfl) (fun W => by kernel_rfl)
        case a1 => exact ask_load (guard_none rfl) _ (.tmp 34) (.pointer (some ⟨w.heap.size, 0, none⟩)) (.int .u64 (s : Int)) rfl rfl (by intro k hk; cases hk; rfl) (fun W hW => load_u64b W _ _ (by rw [hW.1.1.cell]; rfl))
        case a2 => exact ask_bin (guard_none rfl) .add _ _ (.tmp 35) _ (.int .u64 (s : Int)) (.int .u64 1) (.int .u64 (S1 : Int)) rfl rfl rfl (by intro k hk; cases hk; rfl) (fun W => add_u64 _ _ _ _ _ hs1 (by omega) W)
        case a3 => exact ask_field (guard_none rfl) _ (.tmp 4) 1 (.pointer (some ⟨w.heap.size, 0, none⟩)) (.pointer (some ⟨w.heap.size, 1, none⟩)) rfl rfl (by intro k hk; cases hk; rfl) (fun W => by kernel_rfl)
        case a4 => exact ask_load (guard_none rfl) _ (.tmp 37) (.pointer (some ⟨w.heap.size, 1, none⟩)) (.slice a m c) rfl rfl (by intro k hk; cases hk; rfl) (fun W hW => load_hl W _ _ (by rw [hW.1.1.cell]; rfl))
        case a5 => exact ask_copy (guard_none rfl) (.tmp 8) (.inl rfl) (by intro k hk; cases hk; rfl)
        case a6 => exact ask_slice (guard_none rfl) 30 (.tmp 38) none (some (.tmp 39)) none (.slice a m c) (.slice a r c) none (some (.int .i64 (r : Int))) none rfl rfl rfl rfl rfl (by intro k hk; cases hk; rfl) HTo.out
        case a7 => exact ask_load (guard_none rfl) _ (.tmp 9) (.pointer (some ⟨g9, 0, none⟩)) (.agg cl) rfl rfl (by intro k hk; cases hk; rfl) (fun W hW => hW.2.loads 24 _ Tryd.underlying24 rfl HSl.out)
        case a8 => exact ask_build_hash hG2 (guard_none rfl) _ last cl HL32.out HCl.out rfl rfl (by intro k hk; cases hk; rfl)
        case a9 => exact ask_build_two hG2 (guard_none rfl) (.tmp 40) (.tmp 42) (ps.take r) [last] rfl (fun x W hW hk => ⟨by rw [show evalBy x (.tmp 40) = .slice a r c from hk 40 rfl]; exact HT2.out.below (Nat.le_refl _) hW.1.2.2.2, hk 42 rfl⟩) (by intro k hk; cases hk; rfl)
        case a10 => exact ask_call_by hG2 (guard_none rfl) _ _ _ (prefF (w.heap.size + 3) (r + 1) (ps.take r ++ [last])) rfl (by kernel_rfl) (by intro k hk; cases hk; rfl) (fun x W hW hk => by
          obtain ⟨g, hv, hp⟩ := hk 43 rfl
          show Calls _ _ #[x 43] W _
          rw [hv]
          refine (hConcat_any g 2 [ps.take r, [last]] W hp rfl (by decide) (by have := HLt.out; simp only [List.flatten_cons, List.flatten_nil, List.append_nil]; omega)).mono ?_
          rintro e w' ⟨v, h1, h2, h3⟩
          simp only [List.flatten_cons, List.flatten_nil, List.append_nil] at h2
          obtain ⟨gq, cq, hq, hq2, _⟩ := h2.form (by rw [HLt.out]; omega)
          refine ⟨v, h1, ⟨some ⟨gq, 0, none⟩, cq, by rw [hq, HLt.out], ?_⟩, h3⟩
          rw [← hq]
          exact h2.lower (hB2 W hW))
        case a11 => exact ask_build_rng hG2 (guard_none rfl) (.tmp 36) (.tmp 44) _ S1 (r + 1) _ rfl rfl rfl (by intro k hk; cases hk; rfl)
      intro a' W6 hW hd' hs' hf'
      have t6 : a'.tmps.getD 6 undef = .pointer (some ⟨w.heap.size + 2, 0, none⟩) := hf' 6 rfl
      have t45 : ∃ ao co, a'.tmps.getD 45 undef = .agg (rngC S1 (.slice ao (r + 1) co)) ∧ OHs W6 (w.heap.size + 3) (.slice ao (ps.take r ++ [last]).length co) (ps.take r ++ [last]) := hf' 45 rfl
      obtain ⟨us', hus, ha'⟩ := act_open 46 a' hs' hd'
      rw [← hus] at t6 t45
      obtain ⟨ao, co, e45, hO⟩ := t45
      have el : ((List.range 46).map us').toArray = #[us' 0, us' 1, us' 2, us' 3, us' 4, us' 5, .pointer (some ⟨w.heap.size + 2, 0, none⟩), us' 7, us' 8, us' 9, us' 10, us' 11, us' 12, us' 13, us' 14, us' 15, us' 16, us' 17, us' 18, us' 19, us' 20, us' 21, us' 22, us' 23, us' 24, us' 25, us' 26, us' 27, us' 28, us' 29, us' 30, us' 31, us' 32, us' 33, us' 34, us' 35, us' 36, us' 37, us' 38, us' 39, us' 40, us' 41, us' 42, us' 43, us' 44, .agg (rngC S1 (.slice ao (r + 1) co))] := by
        show #[us' 0, us' 1, us' 2, us' 3, us' 4, us' 5, us' 6, us' 7, us' 8, us' 9, us' 10, us' 11, us' 12, us' 13, us' 14, us' 15, us' 16, us' 17, us' 18, us' 19, us' 20, us' 21, us' 22, us' 23, us' 24, us' 25, us' 26, us' 27, us' 28, us' 29, us' 30, us' 31, us' 32, us' 33, us' 34, us' 35, us' 36, us' 37, us' 38, us' 39, us' 40, us' 41, us' 42, us' 43, us' 44, us' 45] = _
        rw [t6, e45]
      rw [el] at ha'
      subst ha'
      rw [HLt.out] at hO
      obtain ⟨-, -, ⟨zs, h2, h3⟩, h4⟩ := hW.1
      have H2 := Lib.hid h2
      have H3 := Lib.hid h3
      have H4 := Lib.hid h4
      have HO := Lib.hid hO
      clear hus t6 e45 el hf' hs' hd' hG hB hG2 hB2 h2 h3 h4 hO hW HW5
      simp only [List.drop_succ_cons, List.drop_zero]
      go_wp2_with (refine wpList_store_row rfl 36 (.tmp 6) (.tmp 45) rfl (w.heap.size + 2) (rngC S1 (.slice ao (r + 1) co)) rfl rfl 36 _ H2.out (size_rng _ _) H3.out (rng_one _ _ _ _) ?_)
      refine bodyPost_ret (v := .tuple #[.agg (rngC S1 (.slice ao (r + 1) co)), .int .i64 0]) (ret_range rfl _ _ (w.heap.size + 2) _ _ rfl rfl rfl (Blk.row H2.out _)) rfl ⟨_, rfl, ?_, below_setRow H4.out _ _ (by omega)⟩
      have hB6 : ∀ cs, OHs (W6.setRow (w.heap.size + 2) cs) (w.heap.size + 3) (.slice ao (r + 1) co) (ps.take r ++ [last]) := fun cs => by
        refine ⟨HO.out.1, HO.out.2.1, ?_⟩
        rcases HO.out.2.2 with hq | ⟨g, cap, cur, hv8, hB8, hg8, hr8⟩
        · exact .inl hq
        · exact .inr ⟨g, cap, cur, hv8, hB8, by rw [setRow_other _ _ _ _ (by omega)]; exact hg8, hr8⟩
      exact (hB6 _).lower (by omega)
    · have hpk : pushR n s ps h = ((0, []), 1) := by rw [pushR, if_neg (by omega)]
      rw [hpk]
      have hge : decide ((s : Int) > 9223372036854775807) = true := decide_eq_true (by omega)
      clear hv hk hm hr hpk e1 hch hch1 hh hn h63
      go_enter Tryd.func24, Tryd.ntmps24
      go_upto_region 1 with fail
      refine world_cut (fun W => PuW w s (.slice a m c) h W) HP.out ?_
      clear HP
      intro W1 hW1
      have HW1 := Lib.hid hW1
      clear hW1
      go_wp2_with (refine wpList_load_row rfl 36 (.tmp 4) rfl w.heap.size rfl 36 (rngC s (.slice a m c)) (0, 0) _ HW1.out.1 Tryd.underlying36 rfl (size_rng _ _) ?_)
      refine (HR.out _).mono ?_
      rintro e W2 ⟨rfl, hb2⟩
      have hW2 := HW1.out.keep hb2
      have c0 : W2.cell? ⟨w.heap.size, 0, none⟩ = some (.int .u64 (s : Int)) := by rw [hW2.1.cell]; rfl
      obtain ⟨h1, h0, ⟨zs, h2, h3⟩, h4⟩ := hW2
      have H2 := Lib.hid h2
      have H3 := Lib.hid h3
      have H4 := Lib.hid h4
      clear hb2 h1 h0 h2 h3 h4 HW1 HR
      go_wp2_with (refine wpList_store_row rfl 36 (.tmp 6) (.tmp 18) rfl (w.heap.size + 2) (rngC 0 (.slice none 0 0)) rfl rfl 36 _ H2.out (size_rng _ _) H3.out (rng_one _ _ _ _) ?_)
      exact bodyPost_ret (v := .tuple #[.agg (rngC 0 (.slice none 0 0)), .int .i64 1]) (ret_range rfl _ _ (w.heap.size + 2) _ _ rfl rfl rfl (Blk.row H2.out _)) rfl ⟨_, rfl, OHs.none _ _, below_setRow H4.out _ _ (by omega)⟩
  · have hpk : pushR n s ps h = ((0, []), 1) := by rw [pushR, if_neg (by omega)]
    rw [hpk]
    have e1 : decide (m = ones s) = false := by simpa using hr
    rw [e1] at HR
    clear hv hk hm hr hpk e1 hch hch1 hh hn
    go_enter Tryd.func24, Tryd.ntmps24
    go_upto_region 1 with fail
    refine world_cut (fun W => PuW w s (.slice a m c) h W) HP.out ?_
    clear HP
    intro W1 hW1
    have HW1 := Lib.hid hW1
    clear hW1
    go_wp2_with (refine wpList_load_row rfl 36 (.tmp 4) rfl w.heap.size rfl 36 (rngC s (.slice a m c)) (0, 0) _ HW1.out.1 Tryd.underlying36 rfl (size_rng _ _) ?_)
    refine (HR.out _).mono ?_
    rintro e W2 ⟨rfl, hb2⟩
    have hW2 := HW1.out.keep hb2
    obtain ⟨h1, h0, ⟨zs, h2, h3⟩, h4⟩ := hW2
    have H2 := Lib.hid h2
    have H3 := Lib.hid h3
    have H4 := Lib.hid h4
    clear hb2 h1 h0 h2 h3 h4 HW1 HR
    go_wp2_with (refine wpList_store_row rfl 36 (.tmp 6) (.tmp 18) rfl (w.heap.size + 2) (rngC 0 (.slice none 0 0)) rfl rfl 36 _ H2.out (size_rng _ _) H3.out (rng_one _ _ _ _) ?_)
    exact bodyPost_ret (v := .tuple #[.agg (rngC 0 (.slice none 0 0)), .int .i64 1]) (ret_range rfl _ _ (w.heap.size + 2) _ _ rfl rfl rfl (Blk.row H2.out _)) rfl ⟨_, rfl, OHs.none _ _, below_setRow H4.out _ _ (by omega)⟩
end Go.Proofs.YtdhfabjkpffhnaaDoor

/- The program's functions over ranges answer what they are to answer. -/
namespace Go.Proofs.YtdhfabjkpffhnaaDoor
set_option maxRecDepth 20000
open Go.RowKit ShaMath LeafMath Reg

theorem rngProg : RngProg where
  right s n c a w hs := leafRight_any s n c a w hs
  push n s v ps h w hn hv hh hs hl ht hb := push_any n hn s v ps h w hv hh hs hl ht hb
  peak n s v ps w hn hv hs hl ht := peak_any n hn s v ps w hv hs hl ht
end Go.Proofs.YtdhfabjkpffhnaaDoor

