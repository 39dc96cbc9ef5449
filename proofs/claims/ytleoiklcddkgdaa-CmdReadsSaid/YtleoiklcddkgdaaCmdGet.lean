/- Get: the reading with its recover. -/
import Derived.Test.YtleoiklcddkgdaaCmdEntry
namespace Go.Proofs.Ytleoiklcddkgdaa
open Go.RowKit BinMath CmdMath
variable {G : Nat}

theorem frame_get (p q x : Value) : #[p, q] ++ ((Array.replicate 17 undef).setIfInBounds 3 x).setIfInBounds 0 x = #[p, q, x, undef, undef, x, undef, undef, undef, undef, undef, undef, undef, undef, undef, undef, undef, undef, undef] := by
  apply Array.ext'
  simp only [Array.toList_append, Array.toList_setIfInBounds, Array.toList_replicate]
  rfl

set_option maxHeartbeats 400000 in
/-- The deferred closure, nothing to recover. -/
theorem get_idle (p q : Value) (w : World) :
    CallsD Try.prog 29 #[p, q] .returning w fun e u' w' => e = .returned (.tuple #[]) ∧ u' = .returning ∧ w' = w := by
  refine callsD_of_wpS Try.func29 rfl fun c₀ cs hu => ?_
  apply wpS_seq
  apply wpS_region
  simp [wpOpsS, go_sem, recoverD, hu, Try.ntmps29, Exit.thenS]
  rw [frame_get]
  refine wpS_of_wp ?_
  go_wp2
  cases c₀
  simp_all [bodyPostS, results, Try.results29]

theorem is_lost (v : Value) (w : World) : (Instr.typeAssert (.iface 48 v) 20 48 true).run Try.prog w = .ok (.tuple #[v, .bool true]) w := by kernel_rfl

/-- Two blocks that may be written. -/
def Two (g2 g3 : Nat) (b : Nat) : Prop := b = g2 ∨ b = g3

theorem OnlyS.of_one {S : Nat → Prop} {g : Nat} {w w' : World} (h : OnlyS (fun b => b = g) w w') (hS : S g) : OnlyS S w w' := h.mono fun _ _ e => e ▸ hS

theorem Blk.drew {W : World} {g : Nat} {t : TypeId} {cs : Array Value} (h : Blk W g t cs) : Blk W.drew g t cs := h

theorem six_set {g2 : Nat} {v0 v1 v2 v3 v4 v5 : Value} {w : World} (h2 : Blk w g2 26 #[v0, v1, v2, v3, v4, v5]) :
    ∃ w6, w6 = ((((((w.setCell ⟨g2, 0, none⟩ (.int .u64 0)).setCell ⟨g2, 1, none⟩ (.int .i64 0)).setCell ⟨g2, 2, none⟩ (.int .u64 0)).setCell ⟨g2, 3, none⟩ (.int .u64 0)).setCell ⟨g2, 4, none⟩ (.slice none 0 0)).setCell ⟨g2, 5, none⟩ (.slice none 0 0)) ∧ Blk w6 g2 26 zeroC ∧ OnlyS (fun b => b = g2) w w6 := by
  have a0 := h2.set 0 (.int .u64 0)
  have a1 := a0.set 1 (.int .i64 0)
  have a2 := a1.set 2 (.int .u64 0)
  have a3 := a2.set 3 (.int .u64 0)
  have a4 := a3.set 4 (.slice none 0 0)
  have a5 := a4.set 5 (.slice none 0 0)
  have o0 := (OnlyS.refl (fun b => b = g2) w).setCell (p := ⟨g2, 0, none⟩) (fun _ => rfl) (.int .u64 0)
  have o1 := o0.setCell (p := ⟨g2, 1, none⟩) (fun _ => rfl) (.int .i64 0)
  have o2 := o1.setCell (p := ⟨g2, 2, none⟩) (fun _ => rfl) (.int .u64 0)
  have o3 := o2.setCell (p := ⟨g2, 3, none⟩) (fun _ => rfl) (.int .u64 0)
  have o4 := o3.setCell (p := ⟨g2, 4, none⟩) (fun _ => rfl) (.slice none 0 0)
  have o5 := o4.setCell (p := ⟨g2, 5, none⟩) (fun _ => rfl) (.slice none 0 0)
  exact ⟨_, rfl, a5, o5⟩

theorem get_close {g2 g3 : Nat} {x v0 v1 v2 v3 v4 v5 : Value} {w : World} (h2 : Blk w g2 26 #[v0, v1, v2, v3, v4, v5]) (h3 : Blk w g3 29 #[x]) (hne : ¬ g2 = g3) (c : Int) (o : Obj) (W : World) (hW : W = ((((((((w.setCell ⟨g2, 0, none⟩ (.int .u64 0)).setCell ⟨g2, 1, none⟩ (.int .i64 0)).setCell ⟨g2, 2, none⟩ (.int .u64 0)).setCell ⟨g2, 3, none⟩ (.int .u64 0)).setCell ⟨g2, 4, none⟩ (.slice none 0 0)).setCell ⟨g2, 5, none⟩ (.slice none 0 0)).setCell ⟨g3, 0, none⟩ (.int .i64 c)).alloc o).drew) :
    Blk W g2 26 zeroC ∧ Blk W g3 29 #[.int .i64 c] ∧ OnlyS (Two g2 g3) w W := by
  obtain ⟨w6, e6, b6, o6⟩ := six_set h2
  rw [← e6] at hW
  subst hW
  clear e6
  have b3 := h3.onlyS o6 (fun e => hne e.symm)
  have o7 := (o6.of_one (S := Two g2 g3) (.inl rfl)).setCell (p := ⟨g3, 0, none⟩) (fun _ => .inr rfl) (.int .i64 c)
  exact ⟨((b6.other ⟨g3, 0, none⟩ (.int .i64 c) hne).alloc o).drew, ((b3.set 0 (.int .i64 c)).alloc o).drew, (o7.alloc o).drew⟩

set_option maxHeartbeats 4000000 in
/-- The deferred closure behind a reading that gave up. -/
theorem get_caught (g2 g3 c : Nat) (x v0 v1 v2 v3 v4 v5 : Value) (w : World) (h2 : Blk w g2 26 #[v0, v1, v2, v3, v4, v5]) (h3 : Blk w g3 29 #[x]) (hne : ¬ g2 = g3) :
    CallsD Try.prog 29 #[.pointer (some ⟨g2, 0, none⟩), .pointer (some ⟨g3, 0, none⟩)] (.panicking (lostC c)) w fun e u' w' =>
      e = .returned (.tuple #[]) ∧ u' = .panicking [{ v := .iface 48 (.agg #[.int .i64 (c : Int)]), recovered := true }] ∧ Blk w' g2 26 zeroC ∧ Blk w' g3 29 #[.int .i64 (c : Int)] ∧ OnlyS (Two g2 g3) w w' := by
  refine callsD_of_wpS Try.func29 rfl fun c₀ cs0 hu => ?_
  apply wpS_seq
  apply wpS_region
  simp [wpOpsS, go_sem, recoverD, hu, lostC, Try.ntmps29, Exit.thenS]
  rw [frame_get]
  refine wpS_of_wp ?_
  have hta := is_lost (.agg #[.int .i64 (c : Int)])
  have H2 := Lib.hid h2
  have H3 := Lib.hid h3
  have l2 := h2.lt
  have l3 := h3.lt
  have m2 : ¬ w.heap.size = g2 := by omega
  have m3 : ¬ w.heap.size = g3 := by omega
  have m4 : ¬ g3 = g2 := fun e => hne e.symm
  have c0 : w.cell? ⟨g2, 0, none⟩ = some v0 := by rw [h2.cell]; rfl
  have c1 : w.cell? ⟨g2, 1, none⟩ = some v1 := by rw [h2.cell]; rfl
  have c2 : w.cell? ⟨g2, 2, none⟩ = some v2 := by rw [h2.cell]; rfl
  have c3 : w.cell? ⟨g2, 3, none⟩ = some v3 := by rw [h2.cell]; rfl
  have c4 : w.cell? ⟨g2, 4, none⟩ = some v4 := by rw [h2.cell]; rfl
  have c5 : w.cell? ⟨g2, 5, none⟩ = some v5 := by rw [h2.cell]; rfl
  have e0 : w.cell? ⟨g3, 0, none⟩ = some x := by rw [h3.cell]; rfl
  have f0 := h2.frozen 0
  have f1 := h2.frozen 1
  have f2 := h2.frozen 2
  have f3 := h2.frozen 3
  have f4 := h2.frozen 4
  have f5 := h2.frozen 5
  have f6 := h3.frozen 0
  clear h2 h3
  go_wp2
  go_region
  all_goals go_wp2
  all_goals simp [bodyPostS, results, Try.results29]
  all_goals exact get_close H2.out H3.out hne (c : Int) _ _ rfl

theorem ret_two {fn : Func} {p u : Tmp} (h : fn.results = #[.cell p 26, .cell u 29]) (tmps : Array Value) (W : World) (g2 g3 : Nat) (cs : Array Value) (c : Value) (hs : cs.size = 6) (hp : tmps.getD p undef = .pointer (some ⟨g2, 0, none⟩)) (hu : tmps.getD u undef = .pointer (some ⟨g3, 0, none⟩))
    (h2 : Blk W g2 26 cs) (h3 : Blk W g3 29 #[c]) : (results fn tmps).run Try.prog W = .ok (.tuple #[.agg cs, c]) W := by
  have h6 : (Try.prog.info? 26).map (·.size) = some 6 := by kernel_rfl
  have hl := run_loadVar_row (P := Try.prog) W g2 26 26 cs (0, 0) _ h2 Try.underlying26 rfl (by rw [hs]; exact h6)
  have hagg : (isAgg 29).run Try.prog W = .ok false W := by kernel_rfl
  have hc : W.cell? ⟨g3, 0, none⟩ = some c := by rw [h3.cell]; rfl
  have hl2 : (loadVar 29 ⟨g3, 0, none⟩).run Try.prog W = .ok c W := by simp [loadVar, Sem.run_bind, hagg, hc]
  have hp' : tmps[p]?.getD undef = .pointer (some ⟨g2, 0, none⟩) := by simpa using hp
  have hu' : tmps[u]?.getD undef = .pointer (some ⟨g3, 0, none⟩) := by simpa using hu
  simp [results, h, hp', hu', asAddr, hl, hl2, Result.andThen]

theorem At.wrote {w w' : World} {R g : Nat} {l r : List UInt8} {t : TypeId} {cs : Array Value} {z : Int} (h : At w R G l r) (hb : Blk w g t cs) (h0 : cs[0]? = some (.int .u64 z)) (hR : ¬ R = g) (ho : OnlyS (fun b => b = g) w w') : At w' R G l r := by
  obtain ⟨k, ⟨b, cap, hh, hk, hl, ⟨hc1, hc2, hG⟩, hcase⟩, e⟩ := h
  have hRl : R < w.heap.size := (Array.getElem?_eq_some_iff.1 hh).1
  refine ⟨k, ⟨b, cap, by rw [ho.block R hRl hR]; exact hh, hk, hl, ⟨hc1, hc2, Nat.le_trans hG ho.size⟩, ?_⟩, e⟩
  rcases hcase with hcase | ⟨g', rfl, hn, hlt, hc⟩
  · exact .inl hcase
  · refine .inr ⟨g', rfl, hn, hlt, fun i hi => ?_⟩
    have hne : ¬ g' = g := fun e => by
      subst e
      have h1 := hc 0 (by omega)
      rw [hb.cell, h0] at h1
      simp [bv] at h1
    have hcl : w'.cell? ⟨g', i, none⟩ = w.cell? ⟨g', i, none⟩ := World.cell?_of_block (w := w) (ho.block g' (Nat.lt_of_lt_of_le hlt hG) hne)
    rw [hcl]
    exact hc i hi

theorem Mine.far {w w' : World} {B : Nat} {e : Ent} {a b : Option Addr} {ca cb : Nat} {S : Nat → Prop} (h : Mine w B e a ca b cb) (ho : OnlyS S w w') (hS : ∀ k, B ≤ k → ¬ S k) : Mine w' B e a ca b cb :=
  ⟨h.ok, row_to h.d fun k hk => ho.block k (World.ownsRow.lt h.d k hk).2 (hS k (World.ownsRow.lt h.d k hk).1), h.m.to fun k hk => ho.block k (World.ownsRow.lt h.m k hk).2 (hS k (World.ownsRow.lt h.m k hk).1), h.dl, h.ml⟩

theorem Mine.onlyR {w w' : World} {B R : Nat} {e : Ent} {a b : Option Addr} {ca cb : Nat} (h : Mine w B e a ca b cb) (hR : R < B) (ho : Only R w w') : Mine w' B e a ca b cb :=
  ⟨h.ok, row_onlyR h.d hR ho, h.m.only hR ho, h.dl, h.ml⟩

theorem Mine.low {w : World} {B B' : Nat} {e : Ent} {a b : Option Addr} {ca cb : Nat} (h : Mine w B e a ca b cb) (hB : B' ≤ B) : Mine w B' e a ca b cb :=
  ⟨h.ok, row_low h.d hB, nrow_low h.m hB, h.dl, h.ml⟩

theorem Mine.zero (w : World) (B : Nat) : Mine w B Ent.zero none 0 none 0 := ⟨Ent.Ok.zero, World.ownsRow_nil _ _ _ _, World.ownsRow_nil _ _ _ _, by decide, by decide⟩

theorem below_two {B : Nat} {w w1 w2 : World} {S : Nat → Prop} (h : Below B w w1) (ho : OnlyS S w1 w2) (hS : ∀ k, k < B → ¬ S k) (hB : B ≤ w1.heap.size) : Below B w w2 := h.trans (ho.below hS hB)

/-- How Get ends. -/
def GetEnd (l : List UInt8) (w : World) (e : Ending) (w' : World) : Prop :=
  ∃ a ca b cb, e = .returned (.tuple #[.agg (entC (getR l).1 a ca b cb), .int .i64 ((getR l).2 : Int)]) ∧ Mine w' w.heap.size (getR l).1 a ca b cb ∧ Below w.heap.size w w'

theorem getEnd_err {l : List UInt8} {c : Nat} {w w' : World} (h : getR l = (Ent.zero, c)) (hb : Below w.heap.size w w') : GetEnd l w (.returned (.tuple #[.agg zeroC, .int .i64 (c : Int)])) w' := by
  unfold GetEnd
  rw [h]
  exact ⟨none, 0, none, 0, rfl, Mine.zero _ _, hb⟩

theorem getEnd_ok {l : List UInt8} {x : Ent} {a b : Option Addr} {ca cb : Nat} {w w' : World} (h : getR l = (x, 0)) (hm : Mine w' w.heap.size x a ca b cb) (hb : Below w.heap.size w w') : GetEnd l w (.returned (.tuple #[.agg (entC x a ca b cb), .int .i64 0])) w' := by
  unfold GetEnd
  rw [h]
  exact ⟨a, ca, b, cb, rfl, hm, hb⟩

set_option maxHeartbeats 4000000 in
theorem get_any (a : Option Addr) (len cap : Nat) (l : List UInt8) (w : World) (hx : Bys w (.slice a len cap) l) (hl : l.length ≤ 140737488351232) :
    Calls Try.prog 17 #[.slice a len cap] w (GetEnd l w) := by
  have hmf : ∀ (fn : Fn) (first cap : Array Value) (w : World), (Instr.makeFunc fn first cap).run Try.prog w = .ok (.func fn first cap) w := fun _ _ _ _ => rfl
  have b1 : Below w.heap.size w ((w.alloc (.cells zeroC 26)).alloc (.cells #[.int .i64 0] 29)) := ((Below.refl _ _).alloc (Nat.le_refl _) _).alloc (by simp) _
  have hs1 : ((w.alloc (.cells zeroC 26)).alloc (.cells #[.int .i64 0] 29)).heap.size = w.heap.size + 2 := by simp
  have E2 : Blk ((w.alloc (.cells zeroC 26)).alloc (.cells #[.int .i64 0] 29)) w.heap.size 26 zeroC := (Blk.new w _ _).alloc _
  have E3 : Blk ((w.alloc (.cells zeroC 26)).alloc (.cells #[.int .i64 0] 29)) (w.heap.size + 1) 29 #[.int .i64 0] := by
    have := Blk.new (w.alloc (.cells zeroC 26)) 29 #[.int .i64 0]
    simpa using this
  have HN := Lib.hid (rnew_any a len cap l _ (hx.below (Nat.le_refl _) b1) hl)
  have HB1 := Lib.hid b1
  have HS1 := Lib.hid hs1
  have HE2 := Lib.hid E2
  have HE3 := Lib.hid E3
  clear hx hl b1 hs1 E2 E3
  go_enter_defers Try.func17, Try.ntmps17
  go_wp2_with fail
  refine HN.out.mono ?_
  rintro e w2 ⟨R, rfl, hR, hrd, hb⟩
  rw [HS1.out] at hR
  have hsz2 : w.heap.size + 2 ≤ w2.heap.size := by have := hb.size; rw [HS1.out] at this; exact this
  have HB2 := Lib.hid (HB1.out.trans (hb.mono (by rw [HS1.out]; omega)))
  have HF2 := Lib.hid (HE2.out.keep hb)
  have HF3 := Lib.hid (HE3.out.keep hb)
  have HAt := Lib.hid (show At w2 R w2.heap.size l l from ⟨0, hrd, rfl⟩)
  have HEn := Lib.hid (entry_any HAt.out)
  clear hrd hb HN
  go_wp2_with fail
  refine HEn.out.mono ?_
  rintro e w3 ⟨ho, hcase⟩
  have hRl : R < w2.heap.size := HAt.out.lt.1
  have HB3 := Lib.hid (HB2.out.trans (ho.below (by omega) (by omega)))
  have HG2 := Lib.hid (HF2.out.onlyR ho (by omega))
  have HG3 := Lib.hid (HF3.out.onlyR ho (by omega))
  have hsz3 : w.heap.size + 2 ≤ w3.heap.size := Nat.le_trans hsz2 ho.size
  have hs23 : w2.heap.size ≤ w3.heap.size := ho.size
  clear ho HEn
  cases hg : gEnt l with
  | error c =>
    rw [hg] at hcase
    obtain rfl := hcase
    have HR := Lib.hid (show getR l = (Ent.zero, c) by unfold getR; rw [hg])
    clear hg
    refine leaves_cons (f := 29) (args := #[.pointer (some ⟨w.heap.size, 0, none⟩), .pointer (some ⟨w.heap.size + 1, 0, none⟩)]) (by simp) (by simp [go_sem]) ?_
    refine (get_caught w.heap.size (w.heap.size + 1) c _ _ _ _ _ _ _ w3 HG2.out HG3.out (by omega)).mono ?_
    rintro e u' w4 ⟨rfl, rfl, hb2, hb3, ho⟩
    exact ⟨_, ret_two rfl _ _ w.heap.size (w.heap.size + 1) _ _ rfl rfl rfl hb2 hb3, getEnd_err HR.out (below_two HB3.out ho (fun k hk hs => by rcases hs with rfl | rfl <;> omega) (by omega))⟩
  | ok p =>
    obtain ⟨x, q⟩ := p
    rw [hg] at hcase
    obtain ⟨a', ca', b', cb', rfl, hm, hat⟩ := hcase
    have HM := Lib.hid hm
    have HAt3 := Lib.hid hat
    have HGe := Lib.hid hg
    clear hg hm hat
    have hE0 : ((5 : Nat) : Int) = 5 := rfl
    by_cases hq : q = []
    · have HR := Lib.hid (show getR l = (x, 0) by unfold getR; rw [HGe.out]; simp only; rw [if_pos hq])
      have HQ := Lib.hid hq
      clear hq
      go_wp2_with (first | (refine wpList_store_all rfl 26 (.tmp 2) (.tmp 9) rfl w.heap.size (entC x a' ca' b' cb') rfl rfl 26 zeroC HG2.out (entC_size _ _ _ _ _) rfl (by simp [entC, Value.oneCell']) ?_; intro w4 hb hos; (have HK2 := Lib.hid hb); (have HK3 := Lib.hid (HG3.out.onlyS hos (by omega))); (have HB4 := Lib.hid (below_two HB3.out hos (fun k hk e => by omega) (by omega))); (have HM4 := Lib.hid (HM.out.far hos (fun k hk e => by omega))); (have HA4 := Lib.hid (HAt3.out.wrote HG2.out (z := 0) rfl (by omega) hos)); (have hs34 : w3.heap.size ≤ w4.heap.size := hos.size); clear hb hos))
      refine (readEnd_any HA4.out).mono ?_
      rintro e w5 ⟨rfl, ho⟩
      have HL2 := Lib.hid (HK2.out.onlyR ho (by omega))
      have HL3 := Lib.hid (HK3.out.onlyR ho (by omega))
      have HB5 := Lib.hid (HB4.out.trans (ho.below (by omega) (by omega)))
      have HM5 := Lib.hid (HM4.out.onlyR hRl ho)
      have hs45 : w4.heap.size ≤ w5.heap.size := ho.size
      clear ho
      rw [if_pos HQ.out]
      go_wp2_with fail
      refine (must_ok _).mono ?_
      rintro e w5 ⟨rfl, rfl⟩
      go_wp2_with (first | (refine wpList_load_by rfl 26 (.tmp 2) rfl _ _ rfl (HL2.out.loads 26 _ Try.underlying26 rfl (entC_size _ _ _ _ _)) ?_) | (refine wpList_store_all rfl 26 (.tmp 2) (.tmp 13) rfl w.heap.size (entC x a' ca' b' cb') rfl rfl 26 _ HL2.out (entC_size _ _ _ _ _) rfl (by simp [entC, Value.oneCell']) ?_; intro w6 hb hos; (have HN2 := Lib.hid hb); (have HN3 := Lib.hid (HL3.out.onlyS hos (by omega))); (have HB6 := Lib.hid (below_two HB5.out hos (fun k hk e => by omega) (by omega))); (have HM6 := Lib.hid (HM5.out.far hos (fun k hk e => by omega))); (have hs56 : w5.heap.size ≤ w6.heap.size := hos.size); clear hb hos) | (refine wpList_store_fld rfl 29 (.tmp 3) (.const (.int .i64 0)) rfl (w.heap.size + 1) 0 (.int .i64 0) rfl rfl 29 _ #[.int .i64 0] HN3.out (by simp) rfl (by kernel_rfl) rfl ?_; intro w7 hb hos; (have HO3 := Lib.hid hb); (have HO2 := Lib.hid (HN2.out.onlyS hos (by omega))); (have HB7 := Lib.hid (below_two HB6.out hos (fun k hk e => by omega) (by omega))); (have HM7 := Lib.hid (HM6.out.far hos (fun k hk e => by omega))); clear hb hos))
      refine leaves_cons (f := 29) (args := #[.pointer (some ⟨w.heap.size, 0, none⟩), .pointer (some ⟨w.heap.size + 1, 0, none⟩)]) (by simp) (by simp [go_sem]) ?_
      refine (get_idle _ _ _).mono ?_
      rintro e u' w8 ⟨rfl, rfl, rfl⟩
      exact ⟨_, ret_two rfl _ _ w.heap.size (w.heap.size + 1) _ _ rfl rfl rfl HO2.out HO3.out, getEnd_ok HR.out (HM7.out.low (by omega)) HB7.out⟩
    · have HR := Lib.hid (show getR l = (Ent.zero, 5) by unfold getR; rw [HGe.out]; simp only; rw [if_neg hq])
      have HQ := Lib.hid hq
      clear hq
      go_wp2_with (first | (refine wpList_store_all rfl 26 (.tmp 2) (.tmp 9) rfl w.heap.size (entC x a' ca' b' cb') rfl rfl 26 zeroC HG2.out (entC_size _ _ _ _ _) rfl (by simp [entC, Value.oneCell']) ?_; intro w4 hb hos; (have HK2 := Lib.hid hb); (have HK3 := Lib.hid (HG3.out.onlyS hos (by omega))); (have HB4 := Lib.hid (below_two HB3.out hos (fun k hk e => by omega) (by omega))); (have HA4 := Lib.hid (HAt3.out.wrote HG2.out (z := 0) rfl (by omega) hos)); (have hs34 : w3.heap.size ≤ w4.heap.size := hos.size); clear hb hos))
      refine (readEnd_any HA4.out).mono ?_
      rintro e w5 ⟨rfl, ho⟩
      have HL2 := Lib.hid (HK2.out.onlyR ho (by omega))
      have HL3 := Lib.hid (HK3.out.onlyR ho (by omega))
      have HB5 := Lib.hid (HB4.out.trans (ho.below (by omega) (by omega)))
      have hs45 : w4.heap.size ≤ w5.heap.size := ho.size
      clear ho
      rw [if_neg HQ.out]
      go_wp2_with fail
      refine (must_bad 5 _ (by decide)).mono ?_
      rintro e w5 ⟨rfl, rfl⟩
      refine leaves_cons (f := 29) (args := #[.pointer (some ⟨w.heap.size, 0, none⟩), .pointer (some ⟨w.heap.size + 1, 0, none⟩)]) (by simp) (by simp [go_sem]) ?_
      refine (get_caught w.heap.size (w.heap.size + 1) 5 _ _ _ _ _ _ _ w5 HL2.out HL3.out (by omega)).mono ?_
      rintro e u' w6 ⟨rfl, rfl, hb2, hb3, ho⟩
      exact ⟨_, ret_two rfl _ _ w.heap.size (w.heap.size + 1) _ _ rfl rfl rfl hb2 hb3, getEnd_err HR.out (below_two HB5.out ho (fun k hk hs => by rcases hs with rfl | rfl <;> omega) (by omega))⟩

end Go.Proofs.Ytleoiklcddkgdaa
