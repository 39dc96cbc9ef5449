/- Joined: MsgRefList, MsgEntries. -/
import Derived.Test.YtgbhfolbkgibfaaLAO
import Derived.Test.YtgbhfolbkgibfaaLAL
import Derived.Test.YtgbhfolbkgibfaaLAR
/- Layer 12's reference: lists of entries. -/
namespace Go.Proofs.Ytgbhfolbkgibfaa
set_option maxRecDepth 20000
open Go.RowKit BinMath CmdMath

/-- Lists of entries that are one up to i. -/
def entsTo (a b : List EE) (i : Nat) : Prop := (a.take i).map EE.e = (b.take i).map EE.e

theorem entsTo_next {a b : List EE} {i : Nat} {x y : EE} (h : entsTo a b i) (hx : a[i]? = some x) (hy : b[i]? = some y) (he : x.e = y.e) : entsTo a b (i + 1) := by
  unfold entsTo at *
  obtain ⟨h1, h2⟩ := List.getElem?_eq_some_iff.1 hx
  obtain ⟨h3, h4⟩ := List.getElem?_eq_some_iff.1 hy
  rw [List.take_succ_eq_append_getElem h1, List.take_succ_eq_append_getElem h3, List.map_append, List.map_append, h, h2, h4]
  simp [he]

theorem ask_indexM {P : Program} {ops : Array Oper} {tab : List (List Nat)} {fin : List Tmp} {K : World → Prop} {f : Tmp → Fact} {i : Nat} {o : Oper} (hg : guardOk ops f o) (ty : TypeId) (s t : Operand) (v x c : Value) (ho : o.op = .indexAddr ty s t) (hs : opFact f s = .is v) (ht : opFact f t = .is x)
    (hd : ∀ k, o.dst = some k → f k = .is c) (hr : ∀ W, (Instr.indexAt ty v x).run P W = .ok c W) : Asked P ops tab fin K f i o := by
  refine ask_val hg c hd fun y W _ hk => ?_
  have e1 := evalBy_opVal hk s (by rw [ho]; simp [Op.operands]) hs
  have e2 := evalBy_opVal hk t (by rw [ho]; simp [Op.operands]) ht
  simp only [execOp, ho, e1, e2, Sem.run_bind, hr W, Result.andThen_ok, Sem.run_pure]

theorem ix_ent (W : World) (ad : Addr) (n c i : Nat) (hi : i < n) : (Instr.indexAt 32 (.slice (some ad) n c) (.int .i64 (i : Int))).run Try.prog W = .ok (.pointer (some (ad.add (i * 6)))) W := by
  have he : Try.prog.elem 32 = 62 := by kernel_rfl
  have hs : (Go.sizeOf 62).run Try.prog W = .ok 6 W := by kernel_rfl
  have ht : Try.prog.underlying 32 = some (.slice (Try.prog.elem 32)) := by rw [he]; exact Try.underlying32
  rw [run_indexAt_slice (h := ht), if_pos (by omega), he, hs]
  simp [Result.andThen]

def ListAt (us vs : List EE) (w : World) (s5 : Value) (wr : World) : Prop :=
  ∃ i, i ≤ us.length ∧ s5 = .int .i64 ((i : Nat) : Int) ∧ entsTo us vs i ∧ Below w.heap.size w wr

set_option maxHeartbeats 2000000 in
theorem refList_any (va vb : Value) (us vs : List EE) (w : World) (ha : Els w va us) (hb : Els w vb vs) (hha : HasAll w us) (hhb : HasAll w vs) (hl : us.length ≤ 140737488351232) :
    Calls Try.prog 33 #[va, vb] w fun r w' => r = .returned (.bool (decide (us.map EE.e = vs.map EE.e))) ∧ Below w.heap.size w w' := by
  obtain ⟨a, ca, rfl⟩ := ha.form
  obtain ⟨b, cb, rfl⟩ := hb.form
  obtain ⟨n, hn⟩ : ∃ n, n = us.length := ⟨_, rfl⟩
  by_cases hlen : us.length = vs.length
  · have hm : n = vs.length := by omega
    rw [← hn] at ha hl
    rw [← hm] at hb
    rw [← hn, ← hm]
    have HA := Lib.hid ha
    have HB := Lib.hid hb
    have HHA := Lib.hid hha
    have HHB := Lib.hid hhb
    have HN := Lib.hid hn
    have HM := Lib.hid hm
    have HStart := Lib.hid (show ListAt us vs w (.int .i64 0) w from ⟨0, Nat.zero_le _, rfl, rfl, Below.refl _ _⟩)
    clear ha hb hha hhb hn hm hlen
    go_enter Try.func33, Try.ntmps33
    go_wp2
    go_loopw [5] (fun s5 wr => ListAt us vs w s5 wr) (fun s5 _ => n - (intOf s5).toNat)
    case atStart => exact HStart.out
    case round =>
      obtain ⟨i, hi, rfl, he, hbw⟩ := hrel
      have hin : i ≤ n := by have := HN.out; omega
      have HBw := Lib.hid hbw
      have HE := Lib.hid he
      clear hi he hbw HStart
      by_cases hlt : i < n
      · obtain ⟨x, hx⟩ : ∃ x, us[i]? = some x := ⟨us[i]'(by have := HN.out; omega), List.getElem?_eq_getElem _⟩
        obtain ⟨y, hy⟩ : ∃ y, vs[i]? = some y := ⟨vs[i]'(by have := HM.out; omega), List.getElem?_eq_getElem _⟩
        obtain ⟨ad, rfl, hca⟩ := (HA.out.below (Nat.le_refl _) HBw.out).load hx
        obtain ⟨bd, rfl, hcb⟩ := (HB.out.below (Nat.le_refl _) HBw.out).load hy
        have LX := Lib.hid (fun W (hW : Below wr.heap.size wr W) => load_ent W (ad.add (i * 6)) x fun j v hj => by
          have h1 := hca j v hj
          rw [hW.cell (p := (ad.add (i * 6)).add j) (World.block_lt_of_cell? wr _ h1)]
          exact h1)
        have LY := Lib.hid (fun W (hW : Below wr.heap.size wr W) => load_ent W (bd.add (i * 6)) y fun j v hj => by
          have h1 := hcb j v hj
          rw [hW.cell (p := (bd.add (i * 6)).add j) (World.block_lt_of_cell? wr _ h1)]
          exact h1)
        have EX := Lib.hid ((HHA.out x (List.mem_of_getElem? hx)).below (Nat.le_refl _) HBw.out)
        have EY := Lib.hid ((HHB.out y (List.mem_of_getElem? hy)).below (Nat.le_refl _) HBw.out)
        have HX := Lib.hid hx
        have HY := Lib.hid hy
        clear hca hcb hx hy
        have IXA := Lib.hid (fun W => ix_ent W ad n ca i hlt)
        have IXB := Lib.hid (fun W => ix_ent W bd n cb i hlt)
        have hG : ∀ W W' : World, Below wr.heap.size wr W → Below W.heap.size W W' → Below wr.heap.size wr W' := fun W W' hW hb => hW.trans (hb.mono hW.size)
        by_cases hxy : x.e = y.e
        · have HC : Hid (∀ W, Below wr.heap.size wr W → Calls Try.prog 46 #[.agg (entC x.e x.a x.ca x.b x.cb), .agg (entC y.e y.a y.ca y.b y.cb)] W fun r w' => r = .returned (.bool true) ∧ Below W.heap.size W w') := Lib.hid fun W hW => by
            have h := refSame_any x.e y.e x.a x.b y.a y.b x.ca x.cb y.ca y.cb W (EX.out.below (Nat.le_refl _) hW) (EY.out.below (Nat.le_refl _) hW)
            rwa [decide_eq_true hxy] at h
          have HNext := Lib.hid (fun W (hW : Below w.heap.size w W) => (⟨i + 1, by have := HN.out; omega, rfl, entsTo_next HE.out HX.out HY.out hxy, hW⟩ : ListAt us vs w (.int .i64 ((i + 1 : Nat) : Int)) W))
          clear hxy EX EY HX HY
          go_upto_region 6 with fail
          refine region_by [(17, .is (.slice (some ad) n ca)), (18, .is (.int .i64 (i : Int))), (19, .is (.pointer (some (ad.add (i * 6))))), (20, .is (.agg (entC x.e x.a x.ca x.b x.cb))), (21, .is (.slice (some bd) n cb)), (22, .is (.int .i64 (i : Int))), (23, .is (.pointer (some (bd.add (i * 6))))), (24, .is (.agg (entC y.e y.a y.ca y.b y.cb))), (25, .is (.bool true)), (26, .is (.bool false))] [0, 1, 2, 3, 4, 5, 6, 7, 8, 9, 10, 26] (fun W => Below wr.heap.size wr W) (by kernel_rfl) (by kernel_rfl) (by kernel_rfl) (by kernel_rfl) (by kernel_rfl) ((Below.refl _ _).drew) ?_ ?_
          · refine ⟨?c0, ?c1, ?c2, ?c3, ?c4, ?c5, ?c6, ?c7, ?c8, ?c9, trivial⟩
            case c0 => exact ask_copy (guard_none rfl) (.tmp 0) (.inl rfl) (by intro k hk; cases hk; rfl)
            case c1 => exact ask_copy (guard_none rfl) (.tmp 5) (.inl rfl) (by intro k hk; cases hk; rfl)
            case c2 => exact ask_indexM (guard_none rfl) _ (.tmp 17) (.tmp 18) _ _ (.pointer (some (ad.add (i * 6)))) rfl rfl rfl (by intro k hk; cases hk; rfl) IXA.out
            case c3 => exact ask_load (guard_none rfl) _ (.tmp 19) (.pointer (some (ad.add (i * 6)))) (.agg (entC x.e x.a x.ca x.b x.cb)) rfl rfl (by intro k hk; cases hk; rfl) (fun W hW => LX.out W hW)
            case c4 => exact ask_copy (guard_none rfl) (.tmp 1) (.inl rfl) (by intro k hk; cases hk; rfl)
            case c5 => exact ask_copy (guard_none rfl) (.tmp 5) (.inl rfl) (by intro k hk; cases hk; rfl)
            case c6 => exact ask_indexM (guard_none rfl) _ (.tmp 21) (.tmp 22) _ _ (.pointer (some (bd.add (i * 6)))) rfl rfl rfl (by intro k hk; cases hk; rfl) IXB.out
            case c7 => exact ask_load (guard_none rfl) _ (.tmp 23) (.pointer (some (bd.add (i * 6)))) (.agg (entC y.e y.a y.ca y.b y.cb)) rfl rfl (by intro k hk; cases hk; rfl) (fun W hW => LY.out W hW)
            case c8 => exact ask_call hG (guard_none rfl) _ _ _ #[.agg (entC x.e x.a x.ca x.b x.cb), .agg (entC y.e y.a y.ca y.b y.cb)] (.is (.bool true)) rfl (by kernel_rfl) rfl rfl (by intro k hk; cases hk; rfl) (fun W hW => (HC.out W hW).mono fun e w' h => ⟨_, h.1, rfl, h.2⟩)
            case c9 => exact ask_exec (guard_none rfl) (.bool false) rfl rfl (by intro k hk; cases hk; rfl) (fun W hW => by kernel_rfl)
          · intro af wq hW hd' hs' hf'
            have t0 : af.tmps.getD 0 undef = .slice (some ad) n ca := hf' 0 rfl
            have t1 : af.tmps.getD 1 undef = .slice (some bd) n cb := hf' 1 rfl
            have t2 : af.tmps.getD 2 undef = undef := hf' 2 rfl
            have t3 : af.tmps.getD 3 undef = undef := hf' 3 rfl
            have t4 : af.tmps.getD 4 undef = u4 := hf' 4 rfl
            have t5 : af.tmps.getD 5 undef = .int .i64 (i : Int) := hf' 5 rfl
            have t6 : af.tmps.getD 6 undef = .slice (some ad) n ca := hf' 6 rfl
            have t7 : af.tmps.getD 7 undef = .int .i64 (n : Int) := hf' 7 rfl
            have t8 : af.tmps.getD 8 undef = .slice (some bd) n cb := hf' 8 rfl
            have t9 : af.tmps.getD 9 undef = .int .i64 (n : Int) := hf' 9 rfl
            have t10 : af.tmps.getD 10 undef = .bool false := hf' 10 rfl
            have t26 : af.tmps.getD 26 undef = .bool false := hf' 26 rfl
            obtain ⟨us, hus, haf⟩ := act_open 27 af hs' hd'
            rw [← hus] at t0 t1 t2 t3 t4 t5 t6 t7 t8 t9 t10 t26
            have el : ((List.range 27).map us).toArray = #[us 0, us 1, us 2, us 3, us 4, us 5, us 6, us 7, us 8, us 9, us 10, us 11, us 12, us 13, us 14, us 15, us 16, us 17, us 18, us 19, us 20, us 21, us 22, us 23, us 24, us 25, us 26] := rfl
            rw [el] at haf
            subst haf
            rw [t0, t1, t2, t3, t4, t5, t6, t7, t8, t9, t10, t26]
            have HQ := Lib.hid hW
            clear hus t0 t1 t2 t3 t4 t5 t6 t7 t8 t9 t10 t26 el hf' hs' hd' hW
            go_wp2
            go_roundw
            case rel => exact HNext.out _ (HBw.out.trans (HQ.out.mono HBw.out.size))
            case measure => simp [intOf]; omega
        · have HC : Hid (∀ W, Below wr.heap.size wr W → Calls Try.prog 46 #[.agg (entC x.e x.a x.ca x.b x.cb), .agg (entC y.e y.a y.ca y.b y.cb)] W fun r w' => r = .returned (.bool false) ∧ Below W.heap.size W w') := Lib.hid fun W hW => by
            have h := refSame_any x.e y.e x.a x.b y.a y.b x.ca x.cb y.ca y.cb W (EX.out.below (Nat.le_refl _) hW) (EY.out.below (Nat.le_refl _) hW)
            rwa [decide_eq_false hxy] at h
          have HF := Lib.hid (show us.map EE.e ≠ vs.map EE.e from fun h => hxy (by
            have h1 : (us.map EE.e)[i]? = some x.e := by rw [List.getElem?_map, HX.out]; rfl
            have h2 : (vs.map EE.e)[i]? = some y.e := by rw [List.getElem?_map, HY.out]; rfl
            rw [h, h2] at h1
            exact (Option.some.inj h1).symm))
          clear hxy EX EY HX HY
          go_upto_region 6 with fail
          refine region_by [(17, .is (.slice (some ad) n ca)), (18, .is (.int .i64 (i : Int))), (19, .is (.pointer (some (ad.add (i * 6))))), (20, .is (.agg (entC x.e x.a x.ca x.b x.cb))), (21, .is (.slice (some bd) n cb)), (22, .is (.int .i64 (i : Int))), (23, .is (.pointer (some (bd.add (i * 6))))), (24, .is (.agg (entC y.e y.a y.ca y.b y.cb))), (25, .is (.bool false)), (26, .is (.bool true))] [0, 1, 2, 3, 4, 5, 6, 7, 8, 9, 10, 26] (fun W => Below wr.heap.size wr W) (by kernel_rfl) (by kernel_rfl) (by kernel_rfl) (by kernel_rfl) (by kernel_rfl) ((Below.refl _ _).drew) ?_ ?_
          · refine ⟨?c0, ?c1, ?c2, ?c3, ?c4, ?c5, ?c6, ?c7, ?c8, ?c9, trivial⟩
            case c0 => exact ask_copy (guard_none rfl) (.tmp 0) (.inl rfl) (by intro k hk; cases hk; rfl)
            case c1 => exact ask_copy (guard_none rfl) (.tmp 5) (.inl rfl) (by intro k hk; cases hk; rfl)
            case c2 => exact ask_indexM (guard_none rfl) _ (.tmp 17) (.tmp 18) _ _ (.pointer (some (ad.add (i * 6)))) rfl rfl rfl (by intro k hk; cases hk; rfl) IXA.out
            case c3 => exact ask_load (guard_none rfl) _ (.tmp 19) (.pointer (some (ad.add (i * 6)))) (.agg (entC x.e x.a x.ca x.b x.cb)) rfl rfl (by intro k hk; cases hk; rfl) (fun W hW => LX.out W hW)
            case c4 => exact ask_copy (guard_none rfl) (.tmp 1) (.inl rfl) (by intro k hk; cases hk; rfl)
            case c5 => exact ask_copy (guard_none rfl) (.tmp 5) (.inl rfl) (by intro k hk; cases hk; rfl)
            case c6 => exact ask_indexM (guard_none rfl) _ (.tmp 21) (.tmp 22) _ _ (.pointer (some (bd.add (i * 6)))) rfl rfl rfl (by intro k hk; cases hk; rfl) IXB.out
            case c7 => exact ask_load (guard_none rfl) _ (.tmp 23) (.pointer (some (bd.add (i * 6)))) (.agg (entC y.e y.a y.ca y.b y.cb)) rfl rfl (by intro k hk; cases hk; rfl) (fun W hW => LY.out W hW)
            case c8 => exact ask_call hG (guard_none rfl) _ _ _ #[.agg (entC x.e x.a x.ca x.b x.cb), .agg (entC y.e y.a y.ca y.b y.cb)] (.is (.bool false)) rfl (by kernel_rfl) rfl rfl (by intro k hk; cases hk; rfl) (fun W hW => (HC.out W hW).mono fun e w' h => ⟨_, h.1, rfl, h.2⟩)
            case c9 => exact ask_exec (guard_none rfl) (.bool true) rfl rfl (by intro k hk; cases hk; rfl) (fun W hW => by kernel_rfl)
          · intro af wq hW hd' hs' hf'
            have t0 : af.tmps.getD 0 undef = .slice (some ad) n ca := hf' 0 rfl
            have t1 : af.tmps.getD 1 undef = .slice (some bd) n cb := hf' 1 rfl
            have t2 : af.tmps.getD 2 undef = undef := hf' 2 rfl
            have t3 : af.tmps.getD 3 undef = undef := hf' 3 rfl
            have t4 : af.tmps.getD 4 undef = u4 := hf' 4 rfl
            have t5 : af.tmps.getD 5 undef = .int .i64 (i : Int) := hf' 5 rfl
            have t6 : af.tmps.getD 6 undef = .slice (some ad) n ca := hf' 6 rfl
            have t7 : af.tmps.getD 7 undef = .int .i64 (n : Int) := hf' 7 rfl
            have t8 : af.tmps.getD 8 undef = .slice (some bd) n cb := hf' 8 rfl
            have t9 : af.tmps.getD 9 undef = .int .i64 (n : Int) := hf' 9 rfl
            have t10 : af.tmps.getD 10 undef = .bool false := hf' 10 rfl
            have t26 : af.tmps.getD 26 undef = .bool true := hf' 26 rfl
            obtain ⟨us, hus, haf⟩ := act_open 27 af hs' hd'
            rw [← hus] at t0 t1 t2 t3 t4 t5 t6 t7 t8 t9 t10 t26
            have el : ((List.range 27).map us).toArray = #[us 0, us 1, us 2, us 3, us 4, us 5, us 6, us 7, us 8, us 9, us 10, us 11, us 12, us 13, us 14, us 15, us 16, us 17, us 18, us 19, us 20, us 21, us 22, us 23, us 24, us 25, us 26] := rfl
            rw [el] at haf
            subst haf
            rw [t0, t1, t2, t3, t4, t5, t6, t7, t8, t9, t10, t26]
            have HQ := Lib.hid hW
            clear hus t0 t1 t2 t3 t4 t5 t6 t7 t8 t9 t10 t26 el hf' hs' hd' hW
            go_wp2
            go_ret
            exact ⟨by rw [decide_eq_false HF.out]; rfl, HBw.out.trans (HQ.out.mono HBw.out.size)⟩
      · obtain rfl : i = n := by omega
        have HF := Lib.hid (show us.map EE.e = vs.map EE.e by
          have h := HE.out
          unfold entsTo at h
          rw [List.take_of_length_le (by have := HN.out; omega), List.take_of_length_le (by have := HM.out; omega)] at h
          exact h)
        go_wp2
        go_ret
        exact ⟨by rw [decide_eq_true HF.out]; rfl, HBw.out⟩
  · have hq : ((us.length : Int) != (vs.length : Int)) = true := by simp; omega
    have hne : us.map EE.e ≠ vs.map EE.e := fun e => hlen (by simpa using congrArg List.length e)
    rw [decide_eq_false hne]
    obtain ⟨m, hm⟩ : ∃ m, m = vs.length := ⟨_, rfl⟩
    rw [← hn, ← hm] at hq
    rw [← hn, ← hm]
    clear ha hb hha hhb hn hm hlen hne hl
    go_enter Try.func33, Try.ntmps33
    go_wp2
    go_ret
    exact ⟨rfl, Below.refl _ _⟩
end Go.Proofs.Ytgbhfolbkgibfaa

/- Layer 18: entries that go through a hand. -/
namespace Go.Proofs.Ytgbhfolbkgibfaa
set_option maxRecDepth 20000
open Go.RowKit Go.Maps BinMath CmdMath
open MsgMath (Mg Hand fillE entsH entriesH)

def isEnts (F : Prop) (X : Nat → Prop) (B : Nat) (es : List Ent) (y : Value) (w : World) (U : Nat → Prop) : Prop := ∃ us : List EE, us.map EE.e = es ∧ us.length ≤ 4 ∧ Stay w (fun k => U k ∨ X k) B (fun W => (Els W y us ∧ HasAll W us) ∧ Free F W y (us.length * 6) ∧ (F → ∀ u ∈ us, FreeA W u.a u.e.d.length ∧ FreeA W u.b u.e.m.length))

/-- In the midst of the entries: those that went through, and those that are left. -/
structure EAt (F : Prop) (H : Hand) (z : List UInt8 → Nat) (I : World → (Nat → Prop) → List UInt8 → Prop) (U X : Nat → Prop) (B : Nat) (l : List UInt8) (w : World) (g n : Nat) (res : Except Nat (List Ent × List UInt8)) (d rest : List EE) (U' : Nat → Prop) (l' : List UInt8) (wr : World) : Prop where
  len : d.length + rest.length = n
  blk : Blk wr g 62 ((d ++ rest).flatMap EE.cells).toArray
  hand : I wr U' l'
  gu : ¬ U' g
  only : OnlyS U w wr
  sub : ∀ k, U' k → U k ∨ w.heap.size ≤ k
  has : Stay wr (fun k => U' k ∨ X k ∨ k = g) B (fun W => HasAll W (d ++ rest))
  fre : Stay wr (fun k => U' k ∨ X k ∨ k = g) B (fun W => F → ∀ u ∈ d, FreeA W u.a u.e.d.length ∧ FreeA W u.b u.e.m.length)
  ll : z l' ≤ z l + grew (d.length + 1)
  res : res = entsH H (d.map EE.e) (rest.map EE.e) l'

theorem patch_cells (d rest : List EE) (u u' : EE) : patch ((d ++ u :: rest).flatMap EE.cells).toArray (d.length * 6) u'.cells = ((d ++ [u'] ++ rest).flatMap EE.cells).toArray := by
  unfold patch
  congr 1
  rw [EE.cells_len, cells_take, show d.length * 6 + 6 = (d.length + 1) * 6 by omega, cells_drop]
  have h1 : (d ++ u :: rest).take d.length = d := by simp
  have h2 : (d ++ u :: rest).drop (d.length + 1) = rest := by
    rw [← List.drop_drop]
    simp
  rw [h1, h2]
  simp

section
variable {H : Hand} {t : TypeId} {v r : Value} {fo fn ft fe : FuncId} {G B : Nat} {z : List UInt8 → Nat} {I : World → (Nat → Prop) → List UInt8 → Prop} {F : Prop}

/-- Where only new blocks are written. -/
theorem EAt.fresh (hp : HandP H t v r fo fn ft fe G B z I F) {U X U' : Nat → Prop} {l l' : List UInt8} {w wr w3 : World} {g n : Nat} {res : Except Nat (List Ent × List UInt8)} {d rest : List EE} (h : EAt F H z I U X B l w g n res d rest U' l' wr) (ho : OnlyS (fun _ => False) wr w3) : EAt F H z I U X B l w g n res d rest U' l' w3 :=
  ⟨h.len, h.blk.onlyS ho (fun e => e), hp.keep h.hand ho (fun _ _ e => e.elim), h.gu, h.only.then ho (fun _ _ e => e.elim), h.sub, h.has.step ho (fun _ _ e => e.elim) (fun _ _ e => e), h.fre.step ho (fun _ _ e => e.elim) (fun _ _ e => e), h.ll, h.res⟩

theorem EAt.next (hp : HandP H t v r fo fn ft fe G B z I F) {U X U' U2 : Nat → Prop} {l l' q : List UInt8} {w wr w4 w5 : World} {g n : Nat} {res : Except Nat (List Ent × List UInt8)} {d rest : List EE} {u u' : EE} (h : EAt F H z I U X B l w g n res d (u :: rest) U' l' wr)
    (hg : w.heap.size ≤ g) (hG : G ≤ g) (hr : H.entry u.e l' = .ok (u'.e, q)) (ho : OnlyS U' wr w4) (hI : I w4 U2 q) (hU : ∀ k, U2 k → U' k ∨ wr.heap.size ≤ k) (hq : z q ≤ z l' + 20000) (hu : Stay w4 (fun k => U2 k ∨ X k ∨ k = g) B (fun W => Has W u'.e u'.a u'.ca u'.b u'.cb ∧ (F → FreeA W u'.a u'.e.d.length ∧ FreeA W u'.b u'.e.m.length)))
    (e5 : w5 = w4.setRow g (patch ((d ++ u :: rest).flatMap EE.cells).toArray (d.length * 6) u'.cells)) : EAt F H z I U X B l w g n res (d ++ [u']) rest U2 q w5 := by
  subst e5
  have hgl := h.blk.lt
  have hos := setRow_onlyS w4 g (patch ((d ++ u :: rest).flatMap EE.cells).toArray (d.length * 6) u'.cells)
  have hg2 : ¬ U2 g := fun e => by
    rcases hU g e with e | e
    · exact h.gu e
    · omega
  have hb4 := h.blk.onlyS ho h.gu
  have hst : Stay w4 (fun k => U2 k ∨ X k ∨ k = g) B (fun W => HasAll W (d ++ u :: rest)) := h.has.step ho (fun k _ e => .inl e) (fun k hk e => e.elim (fun e => .inl ((hU k e).resolve_right (by omega))) .inr)
  refine ⟨?_, ?_, hp.keep hI hos (fun k _ e => by have e : k = g := e; subst e; exact ⟨hG, hg2⟩), hg2, ?_, fun k hk => ?_, ?_, ?_, ?_, ?_⟩
  · have := h.len
    simp only [List.length_cons, List.length_append, List.length_nil] at this ⊢
    omega
  · rw [← patch_cells d rest u u']
    exact hb4.row _
  · refine (h.only.then ho (fun k hk hu => ?_)).then hos (fun k hk e => by have e : k = g := e; omega)
    exact (h.sub k hu).resolve_right (by omega)
  · rcases hU k hk with hk | hk
    · exact h.sub k hk
    · exact .inr (Nat.le_trans h.only.size hk)
  · refine Stay.step (w := w4) (Y := fun k => U2 k ∨ X k ∨ k = g) (fun W hW z hz => ?_) hos (fun k _ e => .inr (.inr e)) (fun k _ e => e)
    rw [List.append_assoc] at hz
    rcases List.mem_append.1 hz with hz | hz
    · exact hst W hW z (List.mem_append_left _ hz)
    · rcases List.mem_cons.1 hz with rfl | hz
      · exact (hu W hW).1
      · exact hst W hW z (List.mem_append_right _ (List.mem_cons_of_mem _ hz))
  · refine Stay.step (w := w4) (Y := fun k => U2 k ∨ X k ∨ k = g) (fun W hW hF z hz => ?_) hos (fun k _ e => .inr (.inr e)) (fun k _ e => e)
    rcases List.mem_append.1 hz with hz | hz
    · exact (h.fre.step ho (fun k _ e => .inl e) (fun k hk e => e.elim (fun e => .inl ((hU k e).resolve_right (by omega))) .inr)) W hW hF z hz
    · rw [List.mem_singleton] at hz
      subst hz
      exact (hu W hW).2 hF
  · rw [List.length_append]
    exact Nat.le_trans hq (Nat.le_trans (Nat.add_le_add_right h.ll 20000) (Nat.le_of_eq (Nat.add_assoc _ _ _)))
  · rw [h.res, List.map_cons, entsH, MsgMath.bindP_ok hr, List.map_append]
    rfl

set_option maxHeartbeats 4000000 in
theorem entries_any (hp : HandP H t v r fo fn ft fe G B z I F) {w : World} {U : Nat → Prop} {l : List UInt8} (X : Nat → Prop) (ve : Value) (us : List EE) (hI : I w U l) (hX : ∀ k, X k → k < w.heap.size) (hm : Stay w (fun k => U k ∨ X k) B (fun W => Els W ve us ∧ HasAll W us)) (hlen : us.length ≤ 140737488351232) (hl : z l ≤ 900000000000) :
    Calls Try.prog 52 #[.iface t v, ve] w (HEnd 200000 z I U l w (entriesH H (us.map EE.e) l) (isEnts F X B)) := by
  obtain ⟨i0, hi, hz0, hz1, hz2⟩ := info_parts info_ent
  obtain ⟨a, cap, rfl⟩ := hm.now.1.form
  obtain ⟨L, hL⟩ : ∃ L, L = us.length := ⟨_, rfl⟩
  rw [← hL] at hm ⊢
  have hLl : L ≤ 140737488351232 := by omega
  have hlt := hp.lt hI
  have HN := Lib.hid (hp.number L hI (by omega) (by omega))
  have HLen := Lib.hid hL
  have HM := Lib.hid hm
  have HX := Lib.hid hX
  have HLt := Lib.hid hlt
  have mn := hp.mn
  have en := hp.en
  have me := hp.me
  have ee := hp.ee
  have HLl := Lib.hid hl
  have hcv := fun W => conv_len L (by omega) W
  clear hI hm hlen hlt hX hL hl
  cases hr : H.number L l with
  | error c =>
    have HE := Lib.hid (show entriesH H (us.map EE.e) l = .error c by rw [entriesH, List.length_map, ← HLen.out]; exact MsgMath.bindP_err hr)
    have HR := Lib.hid hr
    clear hr
    go_enter Try.func52, Try.ntmps52
    go_wp2_with fail
    refine HN.out.mono ?_
    intro e w1 h
    obtain ⟨ho, hc, rfl⟩ := h.err HR.out
    exact ⟨rfl, HEnd.bad HE.out ho hc⟩
  | ok p =>
    obtain ⟨n, q⟩ := p
    by_cases hn4 : n ≤ 4
    · have HE := Lib.hid (show entriesH H (us.map EE.e) l = entsH H [] ((fillU n us).map EE.e) q by rw [entriesH, List.length_map, ← HLen.out, MsgMath.bindP_ok hr, if_pos hn4, fillU_ents])
      have HR := Lib.hid hr
      clear hr
      go_enter Try.func52, Try.ntmps52
      go_wp2_with fail
      refine HN.out.mono ?_
      intro e w1 h
      obtain ⟨y, U1, rfl, ho, ⟨rfl, -⟩, hI1, hU1, hq⟩ := h.ok HR.out
      have HV := Lib.hid ((HM.out.step ho (fun k _ hu => .inl hu) (Y' := fun k => U1 k ∨ X k) (fun k hk e => e.elim (fun e => .inl ((hU1 k e).resolve_right (by omega))) .inr)))
      have HO := Lib.hid ho
      have HI := Lib.hid hI1
      have HU := Lib.hid hU1
      have HQ := Lib.hid hq
      have hsz : w.heap.size ≤ w1.heap.size := ho.size
      clear h ho hI1 hU1 hq
      go_wp2_with fail
      rw [show decide ((n : Int) ≤ 4) = true from decide_eq_true (by omega)]
      refine (mask_yes 4 _).mono ?_
      rintro e w1' ⟨rfl, rfl⟩
      obtain ⟨g, hg⟩ : ∃ g, g = w1'.heap.size := ⟨_, rfl⟩
      have HGq := Lib.hid hg
      clear hg
      go_wp2_with (first
        | (at_make; refine wpList_make_blk rfl _ _ 32 rfl 62 i0 (.agg zeroC) 6 Try.underlying32 hi hz0 hz1 _ _ n rfl rfl (by rw [hz2]; omega) (by unfold maxLen; omega) ((List.replicate n zeroEE).flatMap EE.cells) (made_ents n hn4) ?_; intro w2 hb2 hw2; rw [← HGq.out] at hb2 ⊢; (have HB2 := Lib.hid hb2); (have HW2 := Lib.hid hw2); (have HV2 := Lib.hid (HV.out.now.1.below (Nat.le_refl _) hw2)); clear hb2 hw2)
        | (refine wpList_copy_blk rfl (.tmp 19) (.tmp 20) 32 32 rfl 62 Try.underlying32 6 (by kernel_rfl) (by decide) g n n a L cap rfl rfl ((List.replicate n zeroEE).flatMap EE.cells) HB2.out ((us.take n).flatMap EE.cells) (by rw [cells_all, List.length_take, ← HLen.out, Nat.min_comm]) (HV2.out.cellsTo n) (by rw [cells_all, cells_all, List.length_take, List.length_replicate]; exact Nat.mul_le_mul_right _ (Nat.min_le_left _ _)) (cells_one _) ((fillU n us).flatMap EE.cells) (fill_cells n us) ?_; intro w3 hb3 hw3; (have HB3 := Lib.hid hb3); (have HW3 := Lib.hid hw3); clear hb3 hw3))
      have hg := HGq.out
      have hgw : w.heap.size ≤ g := by omega
      have hGg : G ≤ g := by have := HLt.out.2.1; omega
      have hBg : B ≤ g := by have := HLt.out.2.2; omega
      have hU1g : ¬ U1 g := fun e => by have := (hp.lt HI.out).1 g e; omega
      have h0 : EAt F H z I U X B l w g n (entriesH H (us.map EE.e) l) [] (fillU n us) U1 q w3 := by
        refine ⟨by rw [fillU_len]; simp, by rw [List.nil_append]; exact HB3.out, ?_, hU1g, ?_, HU.out, ?_, Stay.all fun W _ u hu => absurd hu List.not_mem_nil, HQ.out, HE.out⟩
        · refine hp.keep (hp.keep (V := fun _ => False) HI.out (OnlyS.of_below HW2.out fun k hk _ => hk) (fun k _ e => e.elim)) HW3.out (fun k _ e => by have e : k = g := e; subst e; exact ⟨hGg, hU1g⟩)
        · exact (HO.out.then (OnlyS.of_below (S := fun _ => False) HW2.out fun k hk _ => hk) (fun k _ e => e.elim)).then HW3.out (fun k hk e => by have e : k = g := e; omega)
        · have h1 := HV.out.step (OnlyS.of_below (S := fun _ => False) HW2.out fun k hk _ => hk) (fun k _ e => e.elim) (Y' := fun k => U1 k ∨ X k ∨ k = g) (fun k hk e => by
            rcases e with e | e | e
            · exact .inl e
            · exact .inr e
            · omega)
          exact (h1.step HW3.out (fun k _ e => .inr (.inr e)) (fun k _ e => e)).imp fun W hW => fillU_has hW.2
      have H0 := Lib.hid h0
      clear h0 hg HGq HB3 HW3 HB2 HW2 HV2 HV HO HI HU HQ hU1g HN
      go_wp2
      go_loopw [24] (fun s24 wr => ∃ (d rest : List EE) (U' : Nat → Prop) (l' : List UInt8), s24 = .int .i64 (d.length : Int) ∧ EAt F H z I U X B l w g n (entriesH H (us.map EE.e) l) d rest U' l' wr) (fun s24 _ => n - (intOf s24).toNat)
      case atStart => exact ⟨[], fillU n us, U1, q, rfl, H0.out⟩
      case round =>
        clear H0
        obtain ⟨d, rest, U', l', rfl, hat⟩ := hrel
        obtain ⟨i, hi'⟩ : ∃ i, i = d.length := ⟨_, rfl⟩
        rw [← hi']
        have HIl := Lib.hid hi'
        cases rest with
        | nil =>
          have hin : i = n := by have := hat.len; simp at this; omega
          subst hin
          have hres := hat.res
          have hbl := hat.blk
          rw [List.append_nil] at hbl
          have HG := Lib.hid (HEnd.good (D := 200000) (z := z) (l := l) (val := isEnts F X B) (x := d.map EE.e) (y := .slice (some ⟨g, 0, none⟩) i i) (show entriesH H (us.map EE.e) l = .ok (d.map EE.e, l') from hres) hat.only ⟨d, rfl, by omega, fun W hW => by
              have hb : Blk W g 62 (d.flatMap EE.cells).toArray := by
                have h2 := hW g hBg hbl.lt (fun e => e.elim hat.gu fun e => by have := HX.out g e; omega)
                unfold Blk at *
                rw [h2]
                exact hbl
              refine ⟨⟨.inr ⟨⟨g, 0, none⟩, i, by rw [← hi'], by omega, fun j x hj => ?_⟩, ?_⟩, free_of (freeA_blk hb _), hat.fre W fun k h1 h2 h4 => hW k h1 h2 fun e => h4 (e.elim .inl fun e => .inr (.inl e))⟩
              · rw [addr_add, Nat.zero_add, hb.cell]
                simpa using hj
              · have h3 := hat.has W fun k h1 h2 h4 => hW k h1 h2 fun e => h4 (e.elim .inl fun e => .inr (.inl e))
                rwa [List.append_nil] at h3⟩ hat.hand hat.sub (by have h1 := hat.ll; have h2 := grew_le 8 (d.length + 1) (by omega); have h3 : grew 8 = 160000 := rfl; omega))
          clear hat hres hbl hi' HIl
          go_wp2
          go_ret
          exact HG.out
        | cons u rest =>
          have hin : i < n := by have := hat.len; simp at this; omega
          have hgl := hat.blk.lt
          have hld : (Instr.loadAt 62 (.pointer (some ⟨g, i * 6, none⟩))).run Try.prog wr = .ok (.agg (entC u.e u.a u.ca u.b u.cb)) wr := by
            refine hat.blk.loadsAt 62 _ (i * 6) (i * 6) u.cells Try.underlying62 rfl (by kernel_rfl) (fun j x hj => ?_) rfl
            have h1 := cells_drop (d ++ u :: rest) i
            rw [show (d ++ u :: rest).drop i = u :: rest by rw [hi']; simp, List.flatMap_cons] at h1
            rw [List.getElem?_toArray, ← List.getElem?_drop, h1, List.getElem?_append_left (List.getElem?_eq_some_iff.1 hj).1]
            exact hj
          have hix : ∀ W, (Instr.indexAt 32 (.slice (some ⟨g, 0, none⟩) n n) (.int .i64 (i : Int))).run Try.prog W = .ok (.pointer (some ⟨g, i * 6, none⟩)) W := fun W => by
            have h := ix_ent W ⟨g, 0, none⟩ n n i hin
            rwa [addr_add, Nat.zero_add] at h
          have HAt := Lib.hid hat
          have HLd := Lib.hid hld
          clear hat hi' hld
          go_upto_region 8 with (first
            | (refine wpList_load_by rfl 62 (.tmp 27) rfl _ _ rfl HLd.out ?_)
            | (refine wpList_store_all rfl 62 (.tmp 8) (.tmp 28) rfl wr.heap.size (entC u.e u.a u.ca u.b u.cb) rfl rfl 62 zeroC (Blk.new wr 62 zeroC) (by kernel_rfl) rfl (by simp [entC, Value.oneCell']) ?_; intro w3 hb hos; (have HBx := Lib.hid hb); (have HOx := Lib.hid (((OnlyS.refl (fun _ => False) wr).alloc _).then hos (fun k hk e => by have e : k = wr.heap.size := e; omega))); clear hb hos))
          obtain ⟨E, hE⟩ : ∃ E, E = wr.heap.size := ⟨_, rfl⟩
          rw [← hE] at HBx ⊢
          have hat3 := HAt.out.fresh hp HOx.out
          have HA3 := Lib.hid hat3
          have hsz3 : w.heap.size ≤ w3.heap.size := hat3.only.size
          have hg3 : g < w3.heap.size := hat3.blk.lt
          have HN2 := Lib.hid (hp.entry (fun k => X k ∨ k = g) u.e (.agg (entC u.e u.a u.ca u.b u.cb)) hat3.hand (fun k hk => hk.elim (fun hk => Nat.lt_of_lt_of_le (HX.out k hk) hsz3) (fun hk => by omega)) ⟨u.a, u.ca, u.b, u.cb, rfl, hat3.has.imp fun W hW => ⟨hW u (by simp), fun e => e.elim⟩⟩
            (by have h1 := hat3.ll; have h2 := grew_le 8 (d.length + 1) (by have := HIl.out; omega); have h3 : grew 8 = 160000 := rfl; have := HLl.out; omega))
          have HLx := Lib.hid (Blk.loads (P := Try.prog) HBx.out 62 _ Try.underlying62 rfl (by kernel_rfl))
          clear hat3 HAt HLd hE HOx
          cases hx : H.entry u.e l' with
          | error c =>
            have HR2 := Lib.hid hx
            have HE2 := Lib.hid (show entriesH H (us.map EE.e) l = .error c by rw [HA3.out.res, List.map_cons, entsH]; exact MsgMath.bindP_err hx)
            clear hx
            go_wp2_with (refine wpList_load_by rfl 62 (.tmp 8) rfl _ _ rfl HLx.out ?_)
            refine HN2.out.mono ?_
            intro e w4 h
            obtain ⟨ho, hc, rfl⟩ := h.err HR2.out
            exact ⟨rfl, HEnd.bad HE2.out (HA3.out.only.then ho (fun k hk hu => (HA3.out.sub k hu).resolve_right (by omega))) hc⟩
          | ok p =>
            obtain ⟨x, q2⟩ := p
            have HR2 := Lib.hid hx
            clear hx
            go_wp2_with (refine wpList_load_by rfl 62 (.tmp 8) rfl _ _ rfl HLx.out ?_)
            refine HN2.out.mono ?_
            intro e w4 h
            obtain ⟨y', U2, rfl, ho, hy, hI2, hU2, hq2⟩ := h.ok HR2.out
            obtain ⟨xa, xca, xb, xcb, rfl, hu⟩ := hy
            obtain ⟨w5, hw5⟩ : ∃ w5, w5 = w4.setRow g (patch ((d ++ u :: rest).flatMap EE.cells).toArray (d.length * 6) (⟨x, xa, xca, xb, xcb⟩ : EE).cells) := ⟨_, rfl⟩
            have HNat := Lib.hid (HA3.out.next hp hgw hGg (u' := ⟨x, xa, xca, xb, xcb⟩) HR2.out ho hI2 hU2 hq2 hu hw5)
            have hst := Blk.storesAt (P := Try.prog) (HA3.out.blk.onlyS ho HA3.out.gu) 62 (d.length * 6) (⟨x, xa, xca, xb, xcb⟩ : EE).cells (by kernel_rfl) (by have := HA3.out.len; rw [EE.cells_len, List.size_toArray, cells_all]; simp only [List.length_append, List.length_cons] at this ⊢; omega) (fun z hz => cells_one [⟨x, xa, xca, xb, xcb⟩] z (by simpa using hz))
            rw [← hw5, ← HIl.out] at hst
            have HSt := Lib.hid hst
            clear h ho hI2 hU2 hq2 hu hst hw5 HA3 HN2 HLx HBx
            go_wp2_with (refine wpList_store_by rfl 62 (.tmp 34) (.tmp 33) rfl _ _ rfl rfl _ HSt.out ?_)
            go_roundw
            case rel => exact ⟨d ++ [⟨x, xa, xca, xb, xcb⟩], rest, U2, q2, by rw [List.length_append, ← HIl.out]; go_num, HNat.out⟩
            case measure => simp [intOf]; omega
    · have HE := Lib.hid (show entriesH H (us.map EE.e) l = .error 4 by rw [entriesH, List.length_map, ← HLen.out, MsgMath.bindP_ok hr, if_neg hn4]; rfl)
      have HR := Lib.hid hr
      clear hr
      go_enter Try.func52, Try.ntmps52
      go_wp2_with fail
      refine HN.out.mono ?_
      intro e w1 h
      obtain ⟨y, U1, rfl, ho, ⟨rfl, -⟩, -, -, -⟩ := h.ok HR.out
      have HO := Lib.hid ho
      clear h ho
      go_wp2_with fail
      rw [show decide ((n : Int) ≤ 4) = false from decide_eq_false (by omega)]
      refine (mask_no 4 (by decide) _).mono ?_
      rintro e w2 ⟨rfl, rfl⟩
      exact ⟨rfl, HEnd.bad HE.out HO.out (by decide)⟩
end
end Go.Proofs.Ytgbhfolbkgibfaa

