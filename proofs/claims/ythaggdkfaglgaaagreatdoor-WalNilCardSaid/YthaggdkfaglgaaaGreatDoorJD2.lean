/- Joined: DiskDo, DiskAll, DiskSmall, DiskSt, DiskRun. -/
import Derived.Test.YthaggdkfaglgaaaGreatDoorJD1
import Derived.Lib.SliceRun
/- do: an operation done to files; doAll. -/
namespace Go.Proofs.YthaggdkfaglgaaaGreatDoor
set_option maxRecDepth 20000
open Go.RowKit Go.Maps DiskMath

/-- An operation's cells. -/
def opC (o : AOp) (v : Value) : Array Value := #[.int .i64 (o.k : Int), nm o.n, nm o.q, .int .i64 (o.a : Int), v]

/-- What an operation done to files leaves. -/
def Done (w : World) (d o m : Nat) (F : Gf) (cs : Array Value) (L : Fs) (w' : World) : Prop :=
  ∃ F', Keep w' m F' ∧ pr F' = L ∧ Blk w' d 98 (cs.setIfInBounds (o + 1) (.int .i64 (tot L : Int))) ∧ OnlyS (fun k => k = d ∨ k = m ∨ foot F k) w w' ∧ ∀ k, foot F' k → foot F k ∨ w.heap.size ≤ k

theorem Row.take {w : World} {B : Nat} {A : Option Addr} {n C : Nat} {t : List UInt8} (h : Row w B (.slice A n C) t) (q : Nat) (hq : q ≤ n) : Row w B (.slice A q C) (t.take q) := by
  obtain ⟨a', c', e⟩ := slice_of_row h
  simp at e
  obtain ⟨rfl, e2, rfl⟩ := e
  have el : (t.take q).length = q := by rw [List.length_take]; omega
  rcases h.2 with ⟨e, h0⟩ | ⟨g, cap, cur, e, hB, hg, hn, hm, hs, ht⟩
  · simp at e
    obtain ⟨rfl, rfl, rfl⟩ := e
    obtain rfl : q = 0 := by omega
    exact ⟨by simp, .inl ⟨rfl, by simp⟩⟩
  · simp at e
    obtain ⟨rfl, e3, rfl⟩ := e
    refine ⟨by simp, .inr ⟨g, C, cur, by rw [el], hB, hg, by rw [el]; omega, hm, hs, ?_⟩⟩
    rw [el, List.map_take, ← ht, List.take_take]
    congr 1
    omega

theorem foot_put {F : Gf} {n : Nm} {v : Value} {t : List UInt8} {k : Nat} (h : foot (putA n (v, t) F) k) : v.ownBlock = some k ∨ foot F k := by
  obtain ⟨p, hp, h1⟩ := h
  rcases mem_put.1 hp with rfl | ⟨hp, _⟩
  · exact .inl h1
  · exact .inr ⟨p, hp, h1⟩

theorem foot_del {F : Gf} {n : Nm} {k : Nat} (h : foot (delA n F) k) : foot F k := by
  obtain ⟨p, hp, h1⟩ := h
  exact ⟨p, (mem_del.1 hp).1, h1⟩

theorem set_get_ne (cs : Array Value) (o : Nat) (x : Value) : (cs.setIfInBounds (o + 1) x)[o]? = cs[o]? := Array.getElem?_setIfInBounds_ne (by omega)
theorem set_get_same (cs : Array Value) (o : Nat) (x y : Value) (h : cs[o + 1]? = some y) : (cs.setIfInBounds (o + 1) x)[o + 1]? = some x := by
  have := (Array.getElem?_eq_some_iff.1 h).1
  rw [Array.getElem?_setIfInBounds_self_of_lt this]
theorem set_twice (cs : Array Value) (o : Nat) (x y : Value) : (cs.setIfInBounds o x).setIfInBounds o y = cs.setIfInBounds o y := by
  apply Array.ext_getElem?
  intro i
  by_cases h : o = i
  · subst h
    by_cases hl : o < cs.size
    · rw [Array.getElem?_setIfInBounds_self_of_lt (by simpa using hl), Array.getElem?_setIfInBounds_self_of_lt hl]
    · rw [Array.getElem?_eq_none (by simpa using hl), Array.getElem?_eq_none (by simpa using hl)]
  · rw [Array.getElem?_setIfInBounds_ne h, Array.getElem?_setIfInBounds_ne h, Array.getElem?_setIfInBounds_ne h]

theorem pr_some {F : Gf} {n : Nm} {x : Value × List UInt8} (h : getA n F = some x) : getA n (pr F) = some x.2 := by rw [pr_get, h]; rfl
theorem pr_none {F : Gf} {n : Nm} (h : getA n F = none) : getA n (pr F) = none := by rw [pr_get, h]; rfl

set_option maxHeartbeats 1000000 in
theorem do_write {w : World} {d o m : Nat} {F : Gf} {n q : Nm} {a : Nat} {ab : Option Addr} {lb cb : Nat} {b : List UInt8} {cs : Array Value} (hb : Blk w d 98 cs) (h0 : cs[o]? = some (.map (some m))) (h1 : cs[o + 1]? = some (.int .i64 (tot (pr F) : Int)))
    (hk : Keep w m F) (hf : Fit (pr F)) (hl : F.length ≤ 4095) (ho : FitO ⟨0, n, q, a, b⟩) (hbb : Bys w (.slice ab lb cb) b) (hlb : b.length = lb) (hlc : lb ≤ cb) (hap : ∀ k, foot F k → (Value.slice ab lb cb).ownBlock ≠ some k) :
    Calls Tryz.prog 99 #[fp d o, .agg #[.int .i64 0, nm n, nm q, .int .i64 (a : Int), .slice ab lb cb]] w fun e w' => e = .returned (.tuple #[]) ∧ Done w d o m F cs (doA ⟨0, n, q, a, b⟩ (pr F)) w' := by
  obtain ⟨_, hn, hq, _, ha, hb4, _, _⟩ := ho
  simp only at hn ha hb4
  have hb0 : Below w.heap.size w (w.alloc (.cells #[.int .i64 0, nm n, nm q, .int .i64 (a : Int), .slice ab lb cb] 145)) := (Below.refl _ _).alloc (Nat.le_refl _) _
  have HW := Lib.hid (fwrite_any (hb.keep hb0) h0 h1 (hk.below hb0) hn hf hl (ha trivial) (hbb.below (Nat.le_refl _) hb0) hlb hlc (by rw [← hlb]; exact hb4) hap)
  have HK := Lib.hid hk
  have HB0 := Lib.hid hb0
  obtain ⟨N, hN⟩ : ∃ N, N = nm n := ⟨_, rfl⟩
  obtain ⟨M, hM⟩ : ∃ M, M = nm q := ⟨_, rfl⟩
  rw [← hN, ← hM] at HW HB0 ⊢
  clear hb h0 h1 hk hf hl hbb hlb hlc hap hn hq ha hb4 hb0 hN hM
  go_enter Tryz.func99, Tryz.ntmps99
  go_wp2_with fail
  refine HW.out.mono ?_
  rintro e w' ⟨rfl, v', r1, r2, r3, r4⟩
  have HF : Hid (Done w d o m F cs (doA ⟨0, n, q, a, b⟩ (pr F)) w') := ⟨_, r1, by rw [pr_put]; rfl, r3, ((OnlyS.of_below (S := fun k => k = d ∨ k = m ∨ foot F k) HB0.out fun k hk _ => hk).then r4 fun k _ h => by
    rcases h with h | h | h
    · exact .inl h
    · exact .inr (.inl h)
    · exact .inr (.inr (vOf_foot h))), fun k hk => by
    rcases foot_put hk with h | h
    · rcases r2 k h with h | h
      · exact .inl (vOf_foot h)
      · exact .inr (Nat.le_trans HB0.out.size h)
    · exact .inl h⟩
  clear r1 r2 r3 r4 HW
  go_wp2
  exact bodyPost_ret (results_none rfl _ _ _) rfl ⟨rfl, HF.out⟩

set_option maxHeartbeats 1000000 in
theorem do_none {w : World} {d o m k : Nat} {F : Gf} {n q : Nm} {a : Nat} {v : Value} {b : List UInt8} {cs : Array Value} (hb : Blk w d 98 cs) (h0 : cs[o]? = some (.map (some m))) (h1 : cs[o + 1]? = some (.int .i64 (tot (pr F) : Int)))
    (hk : Keep w m F) (hn : n.length ≤ 16) (hk0 : 0 < k) (hg : getA n F = none) :
    Calls Tryz.prog 99 #[fp d o, .agg #[.int .i64 (k : Int), nm n, nm q, .int .i64 (a : Int), v]] w fun e w' => e = .returned (.tuple #[]) ∧ Done w d o m F cs (doA ⟨k, n, q, a, b⟩ (pr F)) w' := by
  have hb0 : Below w.heap.size w (w.alloc (.cells #[.int .i64 (k : Int), nm n, nm q, .int .i64 (a : Int), v] 145)) := (Below.refl _ _).alloc (Nat.le_refl _) _
  have HW := Lib.hid (has_any (d := d) (o := o) (by rw [Blk.cell (hb.keep hb0)]; exact h0) (hk.below hb0) (n := n) (by omega))
  rw [hg] at HW
  have hdo : doA ⟨k, n, q, a, b⟩ (pr F) = pr F := by
    unfold doA
    simp only
    rw [if_neg (by omega), pr_none hg]
  have HF : Hid (Done w d o m F cs (doA ⟨k, n, q, a, b⟩ (pr F)) (w.alloc (.cells #[.int .i64 (k : Int), nm n, nm q, .int .i64 (a : Int), v] 145))) := by
    rw [hdo]
    refine ⟨F, hk.below hb0, rfl, ?_, OnlyS.of_below hb0 fun k hk _ => hk, fun k hk => .inl hk⟩
    have e : cs.setIfInBounds (o + 1) (.int .i64 (tot (pr F) : Int)) = cs := by
      apply Array.ext_getElem?
      intro i
      by_cases h : o + 1 = i
      · subst h
        rw [set_get_same cs o _ _ h1, h1]
      · rw [Array.getElem?_setIfInBounds_ne h]
    rw [e]
    exact hb.keep hb0
  obtain ⟨N, hN⟩ : ∃ N, N = nm n := ⟨_, rfl⟩
  obtain ⟨M, hM⟩ : ∃ M, M = nm q := ⟨_, rfl⟩
  rw [← hN, ← hM] at HW HF ⊢
  have i1 : ((k : Int) == 0) = false := by simp; omega
  clear hb h0 h1 hk hg hn hb0 hN hM hdo hk0
  go_enter Tryz.func99, Tryz.ntmps99
  go_wp2_with fail
  refine HW.out.mono ?_
  rintro e w' ⟨rfl, rfl⟩
  go_wp2
  exact bodyPost_ret (results_none rfl _ _ _) rfl ⟨rfl, HF.out⟩

theorem own_len (A : Option Addr) (q L C : Nat) : (Value.slice A q C).ownBlock = (Value.slice A L C).ownBlock := by cases A <;> rfl

/-- What is known where there is such a file, and its text has been looked up. -/
structure Found (w : World) (d o m : Nat) (F : Gf) (cs : Array Value) (n : Nm) (t : List UInt8) (g : Nat) (os : Array Value) (W : World) : Prop where
  blk : Blk W d 98 cs
  keep : Keep W m F
  opb : Blk W g 145 os
  only : Below w.heap.size w W
  get : getA n (pr F) = some t
  new : w.heap.size ≤ g

theorem Found.sames {w W W' : World} {d o m : Nat} {F : Gf} {cs : Array Value} {n : Nm} {t : List UInt8} {g : Nat} {os : Array Value} (h : Found w d o m F cs n t g os W) (hs : Sames W W') : Found w d o m F cs n t g os W' :=
  ⟨hs.blk h.blk, hs.keep h.keep, hs.blk h.opb, h.only.trans (hs.below.mono h.only.size), h.get, h.new⟩

/-- The text is cut. -/
theorem Found.cut {w W : World} {d o m : Nat} {F : Gf} {cs : Array Value} {n q' : Nm} {t : List UInt8} {g : Nat} {os : Array Value} {A : Option Addr} {L C a q : Nat} (h : Found w d o m F cs n t g os W) (hv : vOf n F = .slice A L C) (hq : q = min a L) (h0 : cs[o]? = some (.map (some m)))
    (h1 : cs[o + 1]? = some (.int .i64 (tot (pr F) : Int))) (hn : n.length ≤ 16) (hf : Fit (pr F)) (hl : F.length ≤ 4095) :
    Calls Tryz.prog 143 #[fp d o, nm n, .slice A q C] W fun e w' => e = .returned (.tuple #[]) ∧ Done w d o m F cs (doA ⟨1, n, q', a, []⟩ (pr F)) w' := by
  have hr : Row W 0 (.slice A L C) t := by
    have h' := vOf_row h.keep n
    rw [hv, h.get] at h'
    exact h'
  have hL : L = t.length := by
    obtain ⟨a', c', e⟩ := slice_of_row hr
    simp at e
    exact e.2.1
  have hr2 := hr.take q (by omega)
  have e : (t : List UInt8).take a = t.take q := by
    rw [hq, hL]
    rcases Nat.le_total a t.length with h | h
    · rw [Nat.min_eq_left h]
    · rw [Nat.min_eq_right h, List.take_of_length_le h, List.take_length]
  have ht : t.length ≤ 8388608 := (hf _ (getA_mem h.get)).2
  refine (set_any h.blk h0 h1 (h.keep.but _) (by omega) hf (by omega) h.keep.long hr2 (by rw [List.length_take]; omega) fun p hp hne k hk => vOf_apart h.keep n p hp hne k (by rw [hv, ← own_len A q L C]; exact hk)).mono ?_
  rintro e' w' ⟨rfl, r1, r2, r3⟩
  have ed : doA ⟨1, n, q', a, []⟩ (pr F) = putA n (t.take q) (pr F) := by
    rw [doA_cut h.get, e]
  refine ⟨rfl, _, r1, by rw [pr_put, ed], by rw [ed, ← pr_put]; exact r2, (OnlyS.of_below (S := fun k => k = d ∨ k = m ∨ foot F k) h.only fun k hk _ => hk).then r3 fun k _ h => ?_, fun k hk => ?_⟩
  · rcases h with h | h
    · exact .inl h
    · exact .inr (.inl h)
  · rcases foot_put hk with h | h
    · exact .inl (vOf_foot (by rw [hv, ← own_len A q L C]; exact h))
    · exact .inl h

/-- The file is gone. -/
theorem Found.gone {w W : World} {d o m : Nat} {F : Gf} {cs : Array Value} {n q : Nm} {t : List UInt8} {g : Nat} {os : Array Value} (h : Found w d o m F cs n t g os W) (h0 : cs[o]? = some (.map (some m)))
    (h1 : cs[o + 1]? = some (.int .i64 (tot (pr F) : Int))) (hn : n.length ≤ 16) (hf : Fit (pr F)) (hl : F.length ≤ 4095) :
    Calls Tryz.prog 144 #[fp d o, nm n] W fun e w' => e = .returned (.tuple #[]) ∧ Done w d o m F cs (doA ⟨2, n, q, 0, []⟩ (pr F)) w' := by
  refine (drop_any h.blk h0 h1 h.keep (by omega) hf (by omega)).mono ?_
  rintro e' w' ⟨rfl, r1, r2, r3⟩
  have ed : doA ⟨2, n, q, 0, []⟩ (pr F) = delA n (pr F) := by
    exact doA_remove h.get
  refine ⟨rfl, _, r1, by rw [pr_del, ed], by rw [ed, ← pr_del]; exact r2, (OnlyS.of_below (S := fun k => k = d ∨ k = m ∨ foot F k) h.only fun k hk _ => hk).then r3 fun k _ h => ?_, fun k hk => .inl (foot_del hk)⟩
  rcases h with h | h
  · exact .inl h
  · exact .inr (.inl h)

/-- The file is gone, its text is laid under another name. -/
theorem Found.move {w W W' : World} {d o m : Nat} {F : Gf} {cs : Array Value} {n q : Nm} {t : List UInt8} {g : Nat} {os : Array Value} (h : Found w d o m F cs n t g os W) (h0 : cs[o]? = some (.map (some m)))
    (h1 : cs[o + 1]? = some (.int .i64 (tot (pr F) : Int))) (hq : q.length ≤ 16) (hf : Fit (pr F)) (hl : F.length ≤ 4095)
    (r1 : Keep W' m (delA n F)) (r2 : Blk W' d 98 (cs.setIfInBounds (o + 1) (.int .i64 (tot (pr (delA n F)) : Int)))) (r3 : OnlyS (fun k => k = d ∨ k = m) W W') :
    Calls Tryz.prog 143 #[fp d o, nm q, vOf n F] W' fun e w' => e = .returned (.tuple #[]) ∧ Done w d o m F cs (doA ⟨3, n, q, 0, []⟩ (pr F)) w' := by
  have hr : Row W 0 (vOf n F) t := by
    have h' := vOf_row h.keep n
    rw [h.get] at h'
    exact h'
  have hr' : Row W' 0 (vOf n F) t := hr.same fun k hk => r3.block k (hr.lt hk).2 fun e => by
    rcases e with e | e
    · exact row_ne_blk hr h.blk (by decide) (by rw [hk, e])
    · exact h.keep.ne hr (by rw [hk, e])
  have hf' : Fit (pr (delA n F)) := by rw [pr_del]; exact fun p hp => hf p (mem_del.1 hp).1
  have ht : t.length ≤ 8388608 := (hf _ (getA_mem h.get)).2
  refine (set_any r2 (by rw [set_get_ne]; exact h0) (set_get_same cs o _ _ h1) (r1.but _) (by omega) hf' (Nat.le_trans length_del (by omega)) r1.long hr' ht fun p hp hne k hk => vOf_apart h.keep n p (mem_del.1 hp).1 (mem_del.1 hp).2 k hk).mono ?_
  rintro e' w' ⟨rfl, s1, s2, s3⟩
  have ed : doA ⟨3, n, q, 0, []⟩ (pr F) = putA q t (delA n (pr F)) := by
    exact doA_rename h.get
  refine ⟨rfl, _, s1, by rw [pr_put, pr_del, ed], ?_, ((OnlyS.of_below (S := fun k => k = d ∨ k = m ∨ foot F k) h.only fun k hk _ => hk).then r3 fun k _ h => ?_).then s3 fun k _ h => ?_, fun k hk => ?_⟩
  · rw [set_twice] at s2
    rw [ed, ← pr_del, ← pr_put]
    exact s2
  · rcases h with h | h
    · exact .inl h
    · exact .inr (.inl h)
  · rcases h with h | h
    · exact .inl h
    · exact .inr (.inl h)
  · rcases foot_put hk with h | h
    · exact .inl (vOf_foot h)
    · exact .inl (foot_del h)


set_option maxHeartbeats 2000000 in
theorem do_cut {w : World} {d o m : Nat} {F : Gf} {n q : Nm} {a : Nat} {v : Value} {cs : Array Value} {t : List UInt8} (hb : Blk w d 98 cs) (h0 : cs[o]? = some (.map (some m))) (h1 : cs[o + 1]? = some (.int .i64 (tot (pr F) : Int)))
    (hk : Keep w m F) (hf : Fit (pr F)) (hl : F.length ≤ 4095) (hn : n.length ≤ 16) (hg : getA n (pr F) = some t) :
    Calls Tryz.prog 99 #[fp d o, .agg #[.int .i64 1, nm n, nm q, .int .i64 (a : Int), v]] w fun e w' => e = .returned (.tuple #[]) ∧ Done w d o m F cs (doA ⟨1, n, q, a, []⟩ (pr F)) w' := by
  have hb0 : Below w.heap.size w (w.alloc (.cells #[.int .i64 1, nm n, nm q, .int .i64 (a : Int), v] 145)) := (Below.refl _ _).alloc (Nat.le_refl _) _
  have hn2 : n.length ≤ 9223372036854775807 := by omega
  have hb1 := hb.keep hb0
  have c0 : (w.alloc (.cells #[.int .i64 1, nm n, nm q, .int .i64 (a : Int), v] 145)).cell? ⟨d, o, none⟩ = some (.map (some m)) := by rw [Blk.cell hb1]; exact h0
  have hsome : (getA n F).isSome = true := by
    rw [pr_get] at hg
    cases h : getA n F with
    | none => rw [h] at hg; cases hg
    | some x => rfl
  have HH := Lib.hid (has_any c0 (hk.below hb0) hn2)
  rw [hsome] at HH
  have hfound : Found w d o m F cs n t w.heap.size #[.int .i64 1, nm n, nm q, .int .i64 (a : Int), v] (w.alloc (.cells #[.int .i64 1, nm n, nm q, .int .i64 (a : Int), v] 145)) :=
    ⟨hb1, hk.below hb0, Blk.new w _ _, hb0, hg, Nat.le_refl _⟩
  obtain ⟨A, C, hvo⟩ := slice_of_row (vOf_row hk n)
  rw [hg] at hvo
  obtain ⟨L, hL⟩ : ∃ L, L = t.length := ⟨_, rfl⟩
  have hvo : vOf n F = .slice A L C := by rw [hvo, hL]; rfl
  have hL8 : L ≤ 8388608 := by rw [hL]; exact (hf _ (getA_mem hg)).2
  have hlk : ∀ N, (Instr.lookup 93 (.map (some m)) (nm n) false).run Tryz.prog ((w.alloc (.cells #[.int .i64 1, nm n, nm q, .int .i64 (a : Int), v] 145)).drewN N) = .ok (.slice A L C) ((w.alloc (.cells #[.int .i64 1, nm n, nm q, .int .i64 (a : Int), v] 145)).drewN N) := fun N => by
    rw [look ((sames_drewN _ N).keep (hk.below hb0)) hn2, hvo]
  obtain ⟨p, hp⟩ : ∃ p, p = min a L := ⟨_, rfl⟩
  have hcut := fun W (h : Found w d o m F cs n t w.heap.size #[.int .i64 1, nm n, nm q, .int .i64 (a : Int), v] W) => h.cut (q' := q) hvo hp h0 h1 hn hf hl
  have hmin : ∀ (ts : Array TypeId) (ty : TypeId) (W : World), (Builtin.min_ ts ty #[.int .i64 (a : Int), .int .i64 (L : Int)]).run Tryz.prog W = .ok (.int .i64 (p : Int)) W := fun ts ty W => by
    have e : ((if (L : Int) < (a : Int) then (L : Int) else (a : Int)) : Int) = (p : Int) := by omega
    rw [run_min_int2]
    congr 2
    try exact e
  have hLC : L ≤ C := by
    have h := vOf_row hk n
    rw [hvo] at h
    rcases h.2 with ⟨e, _⟩ | ⟨g, cap, cur, e, _, _, hx, _⟩
    · simp at e; omega
    · simp at e
      obtain ⟨_, e1, e2⟩ := e
      omega
  have hsl : ∀ W, (Instr.sliceAt 27 (.slice A L C) none (some (.int .i64 (p : Int))) none).run Tryz.prog W = .ok (.slice A p C) W := slice_to A L C p (by omega)
  have HF := Lib.hid hfound
  have HCut := Lib.hid hcut
  obtain ⟨N, hN⟩ : ∃ N, N = nm n := ⟨_, rfl⟩
  obtain ⟨M, hM⟩ : ∃ M, M = nm q := ⟨_, rfl⟩
  rw [← hN, ← hM] at HH HF HCut hlk c0 ⊢
  clear hb h0 h1 hk hf hl hn hg hb0 hb1 hn2 hsome hfound hvo hcut hp hN hM hL
  go_enter Tryz.func99, Tryz.ntmps99
  go_wp2_with fail
  refine HH.out.mono ?_
  rintro e w' ⟨rfl, rfl⟩
  go_wp2
  go_quiet (fail)
  go_wp2
  clear hlk c0
  refine region_tail 10 (by kernel_rfl) (by kernel_rfl) (Found w d o m F cs n t w.heap.size #[.int .i64 1, N, M, .int .i64 (a : Int), v]) ((HF.out.sames (sames_drewN _ nq)).sames (sames_drew _)) ?_
  intro W hW
  have d1 : W.cell? ⟨w.heap.size, 1, none⟩ = some N := by rw [Blk.cell hW.opb]; rfl
  have d3 : W.cell? ⟨w.heap.size, 3, none⟩ = some (.int .i64 (a : Int)) := by rw [Blk.cell hW.opb]; rfl
  have HW := Lib.hid hW
  clear hW
  simp only [List.take_succ_cons, List.take_zero, List.drop_succ_cons, List.drop_zero]
  repeat (first | go_big_quiet_skip | (go_big_quiet_want; go_big_quiet_op; go_big_quiet_on))
  refine wpQuiet_nil ?_
  go_wp2_with fail
  refine (HCut.out W HW.out).mono ?_
  rintro e w' ⟨rfl, h⟩
  have HE := Lib.hid h
  clear h d1 d3 hsl hmin
  go_wp2
  first | go_end0 | refine bodyPost_ret (results_none rfl _ _ _) rfl ?_
  exact ⟨rfl, HE.out⟩
set_option maxHeartbeats 2000000 in
theorem do_remove {w : World} {d o m : Nat} {F : Gf} {n q : Nm} {v : Value} {cs : Array Value} {t : List UInt8} (hb : Blk w d 98 cs) (h0 : cs[o]? = some (.map (some m))) (h1 : cs[o + 1]? = some (.int .i64 (tot (pr F) : Int)))
    (hk : Keep w m F) (hf : Fit (pr F)) (hl : F.length ≤ 4095) (hn : n.length ≤ 16) (hg : getA n (pr F) = some t) :
    Calls Tryz.prog 99 #[fp d o, .agg #[.int .i64 2, nm n, nm q, .int .i64 0, v]] w fun e w' => e = .returned (.tuple #[]) ∧ Done w d o m F cs (doA ⟨2, n, q, 0, []⟩ (pr F)) w' := by
  have hb0 : Below w.heap.size w (w.alloc (.cells #[.int .i64 2, nm n, nm q, .int .i64 0, v] 145)) := (Below.refl _ _).alloc (Nat.le_refl _) _
  have hn2 : n.length ≤ 9223372036854775807 := by omega
  have hb1 := hb.keep hb0
  have c0 : (w.alloc (.cells #[.int .i64 2, nm n, nm q, .int .i64 0, v] 145)).cell? ⟨d, o, none⟩ = some (.map (some m)) := by rw [Blk.cell hb1]; exact h0
  have hsome : (getA n F).isSome = true := by
    rw [pr_get] at hg
    cases h : getA n F with
    | none => rw [h] at hg; cases hg
    | some x => rfl
  have HH := Lib.hid (has_any c0 (hk.below hb0) hn2)
  rw [hsome] at HH
  have hfound : Found w d o m F cs n t w.heap.size #[.int .i64 2, nm n, nm q, .int .i64 0, v] (w.alloc (.cells #[.int .i64 2, nm n, nm q, .int .i64 0, v] 145)) :=
    ⟨hb1, hk.below hb0, Blk.new w _ _, hb0, hg, Nat.le_refl _⟩
  obtain ⟨V, hV⟩ : ∃ V, V = vOf n F := ⟨_, rfl⟩
  have hlk : ∀ N, (Instr.lookup 93 (.map (some m)) (nm n) false).run Tryz.prog ((w.alloc (.cells #[.int .i64 2, nm n, nm q, .int .i64 0, v] 145)).drewN N) = .ok V ((w.alloc (.cells #[.int .i64 2, nm n, nm q, .int .i64 0, v] 145)).drewN N) := fun N => by
    rw [look ((sames_drewN _ N).keep (hk.below hb0)) hn2, hV]
  have HGo := Lib.hid (fun W (h : Found w d o m F cs n t w.heap.size #[.int .i64 2, nm n, nm q, .int .i64 0, v] W) => h.gone (q := q) h0 h1 hn hf hl)

  have HF := Lib.hid hfound
  obtain ⟨N, hN⟩ : ∃ N, N = nm n := ⟨_, rfl⟩
  obtain ⟨M, hM⟩ : ∃ M, M = nm q := ⟨_, rfl⟩
  rw [← hN, ← hM] at HH HF hlk c0 HGo ⊢
  clear hb h0 h1 hk hf hl hn hg hb0 hb1 hn2 hsome hfound hN hM hV
  go_enter Tryz.func99, Tryz.ntmps99
  go_wp2_with fail
  refine HH.out.mono ?_
  rintro e w' ⟨rfl, rfl⟩
  go_wp2
  go_quiet (fail)
  clear hlk c0
  obtain ⟨W, hW⟩ : ∃ W, W = (w.alloc (.cells #[.int .i64 2, N, M, .int .i64 0, v] 145)).drewN nq := ⟨_, rfl⟩
  have HW := Lib.hid (HF.out.sames (sames_drewN _ nq))
  rw [← hW] at HW ⊢
  have d0 : W.cell? ⟨w.heap.size, 0, none⟩ = some (.int .i64 2) := by rw [Blk.cell HW.out.opb]; rfl
  have d1 : W.cell? ⟨w.heap.size, 1, none⟩ = some N := by rw [Blk.cell HW.out.opb]; rfl
  clear hW
  go_wp2_with fail
  refine (HGo.out W HW.out).mono ?_
  rintro e w' ⟨rfl, h⟩
  have HE := Lib.hid h
  clear h d0 d1
  go_wp2
  first | go_end0 | refine bodyPost_ret (results_none rfl _ _ _) rfl ?_
  exact ⟨rfl, HE.out⟩

set_option maxHeartbeats 2000000 in
theorem do_rename {w : World} {d o m : Nat} {F : Gf} {n q : Nm} {v : Value} {cs : Array Value} {t : List UInt8} (hb : Blk w d 98 cs) (h0 : cs[o]? = some (.map (some m))) (h1 : cs[o + 1]? = some (.int .i64 (tot (pr F) : Int)))
    (hk : Keep w m F) (hf : Fit (pr F)) (hl : F.length ≤ 4095) (hn : n.length ≤ 16) (hq : q.length ≤ 16) (hg : getA n (pr F) = some t) :
    Calls Tryz.prog 99 #[fp d o, .agg #[.int .i64 3, nm n, nm q, .int .i64 0, v]] w fun e w' => e = .returned (.tuple #[]) ∧ Done w d o m F cs (doA ⟨3, n, q, 0, []⟩ (pr F)) w' := by
  have hb0 : Below w.heap.size w (w.alloc (.cells #[.int .i64 3, nm n, nm q, .int .i64 0, v] 145)) := (Below.refl _ _).alloc (Nat.le_refl _) _
  have hn2 : n.length ≤ 9223372036854775807 := by omega
  have hb1 := hb.keep hb0
  have c0 : (w.alloc (.cells #[.int .i64 3, nm n, nm q, .int .i64 0, v] 145)).cell? ⟨d, o, none⟩ = some (.map (some m)) := by rw [Blk.cell hb1]; exact h0
  have hsome : (getA n F).isSome = true := by
    rw [pr_get] at hg
    cases h : getA n F with
    | none => rw [h] at hg; cases hg
    | some x => rfl
  have HH := Lib.hid (has_any c0 (hk.below hb0) hn2)
  rw [hsome] at HH
  have hfound : Found w d o m F cs n t w.heap.size #[.int .i64 3, nm n, nm q, .int .i64 0, v] (w.alloc (.cells #[.int .i64 3, nm n, nm q, .int .i64 0, v] 145)) :=
    ⟨hb1, hk.below hb0, Blk.new w _ _, hb0, hg, Nat.le_refl _⟩
  obtain ⟨V, hV⟩ : ∃ V, V = vOf n F := ⟨_, rfl⟩
  have hlk : ∀ N, (Instr.lookup 93 (.map (some m)) (nm n) false).run Tryz.prog ((w.alloc (.cells #[.int .i64 3, nm n, nm q, .int .i64 0, v] 145)).drewN N) = .ok V ((w.alloc (.cells #[.int .i64 3, nm n, nm q, .int .i64 0, v] 145)).drewN N) := fun N => by
    rw [look ((sames_drewN _ N).keep (hk.below hb0)) hn2, hV]
  have HGo := Lib.hid (fun W (h : Found w d o m F cs n t w.heap.size #[.int .i64 3, nm n, nm q, .int .i64 0, v] W) => drop_any h.blk h0 h1 h.keep (n := n) (by omega) hf (by omega))
  have HMv := Lib.hid (fun W W' (h : Found w d o m F cs n t w.heap.size #[.int .i64 3, nm n, nm q, .int .i64 0, v] W) => h.move (W' := W') h0 h1 hq hf hl)
  rw [← hV] at HMv

  have HF := Lib.hid hfound
  obtain ⟨N, hN⟩ : ∃ N, N = nm n := ⟨_, rfl⟩
  obtain ⟨M, hM⟩ : ∃ M, M = nm q := ⟨_, rfl⟩
  rw [← hN, ← hM] at HH HF hlk c0 HGo HMv ⊢
  clear hb h0 h1 hk hf hl hn hg hb0 hb1 hn2 hsome hfound hN hM hV hq
  go_enter Tryz.func99, Tryz.ntmps99
  go_wp2_with fail
  refine HH.out.mono ?_
  rintro e w' ⟨rfl, rfl⟩
  go_wp2
  go_quiet (fail)
  clear hlk c0
  obtain ⟨W, hW⟩ : ∃ W, W = (w.alloc (.cells #[.int .i64 3, N, M, .int .i64 0, v] 145)).drewN nq := ⟨_, rfl⟩
  have HW := Lib.hid (HF.out.sames (sames_drewN _ nq))
  rw [← hW] at HW ⊢
  have d0 : W.cell? ⟨w.heap.size, 0, none⟩ = some (.int .i64 3) := by rw [Blk.cell HW.out.opb]; rfl
  have d1 : W.cell? ⟨w.heap.size, 1, none⟩ = some N := by rw [Blk.cell HW.out.opb]; rfl
  clear hW
  have HOp := Lib.hid HW.out.opb
  have d2 : W.cell? ⟨w.heap.size, 2, none⟩ = some M := by rw [Blk.cell HW.out.opb]; rfl
  go_wp2_with fail
  refine (HGo.out W HW.out).mono ?_
  rintro e w2 ⟨rfl, r1, r2, r3⟩
  have hd : w.heap.size ≠ d := fun e => by
    have h := HW.out.blk
    rw [← e] at h
    unfold Blk at h
    have h' := HW.out.opb
    unfold Blk at h'
    rw [h] at h'
    simp at h'
  have hm : w.heap.size ≠ m := fun e => HW.out.keep.ne_blk HW.out.opb e.symm
  have e2 : w2.cell? ⟨w.heap.size, 2, none⟩ = some M := by
    rw [World.cell?_of_block (w := W) (r3.block w.heap.size HW.out.opb.lt (by rintro (h | h); exact hd h; exact hm h))]
    exact d2
  have HG := Lib.hid (HMv.out W w2 HW.out r1 r2 r3)
  clear r1 r2 r3 d0 d1 d2 hd hm
  go_wp2_with fail
  refine HG.out.mono ?_
  rintro e w' ⟨rfl, h⟩
  have HE := Lib.hid h
  clear h e2
  go_wp2
  first | go_end0 | refine bodyPost_ret (results_none rfl _ _ _) rfl ?_
  exact ⟨rfl, HE.out⟩

end Go.Proofs.YthaggdkfaglgaaaGreatDoor

/- Whatever operation; doAll. -/
namespace Go.Proofs.YthaggdkfaglgaaaGreatDoor
set_option maxRecDepth 20000
open Go.RowKit Go.Maps DiskMath

theorem row_form {w : World} {B : Nat} {v : Value} {l : List UInt8} (h : Row w B v l) : ∃ a c, v = .slice a l.length c ∧ l.length ≤ c := by
  rcases h.2 with ⟨rfl, h0⟩ | ⟨g, cap, cur, rfl, _, _, hn, _⟩
  · exact ⟨none, 0, by rw [h0], by omega⟩
  · exact ⟨_, _, rfl, hn⟩

theorem do_any {w : World} {d o m : Nat} {F : Gf} {op : AOp} {v : Value} {cs : Array Value} (hb : Blk w d 98 cs) (h0 : cs[o]? = some (.map (some m))) (h1 : cs[o + 1]? = some (.int .i64 (tot (pr F) : Int)))
    (hk : Keep w m F) (hf : Fit (pr F)) (hl : F.length ≤ 4095) (ho : FitO op) (hr : Row w 0 v op.b) (hap : ∀ k, foot F k → v.ownBlock ≠ some k) :
    Calls Tryz.prog 99 #[fp d o, .agg (opC op v)] w fun e w' => e = .returned (.tuple #[]) ∧ Done w d o m F cs (doA op (pr F)) w' := by
  obtain ⟨k, n, q, a, b⟩ := op
  have ho' := ho
  obtain ⟨hk3, hn, hq, ha8, ha, hb4, hb0, ha0⟩ := ho'
  simp only at hk3 hn hq ha8 ha hb4 hb0 ha0 hr
  obtain ⟨ab, cb, rfl, hlc⟩ := row_form hr
  rcases Nat.eq_zero_or_pos k with rfl | hpos
  · exact do_write hb h0 h1 hk hf hl ho hr.bys rfl hlc hap
  · obtain rfl := hb0 (by omega)
    cases hg : getA n F with
    | none => exact do_none hb h0 h1 hk hn hpos hg
    | some x =>
      have hg' := pr_some hg
      have h3 : k = 1 ∨ k = 2 ∨ k = 3 := by omega
      rcases h3 with rfl | rfl | rfl
      · exact do_cut hb h0 h1 hk hf hl hn hg'
      · obtain rfl := ha0 (by omega)
        exact do_remove hb h0 h1 hk hf hl hn hg'
      · obtain rfl := ha0 (by omega)
        exact do_rename hb h0 h1 hk hf hl hn hq hg'

/-- Operations with the slices in which their texts lie. -/
abbrev Go8 := List (AOp × Value)
def cells8 (G : Go8) : List Value := G.flatMap fun p => (opC p.1 p.2).toList

/-- A slice of operations of the program's own. -/
structure Wops (w : World) (ws : Value) (G : Go8) : Prop where
  row : w.ownsRow 0 145 5 ws G.length (cells8 G)
  text : ∀ p ∈ G, Row w 0 p.2 p.1.b

theorem cells8_length (G : Go8) : (cells8 G).length = G.length * 5 := by
  induction G with
  | nil => rfl
  | cons p r ih => simp only [cells8, List.flatMap_cons, List.length_append, List.length_cons] at ih ⊢; rw [ih]; simp [opC]; omega

theorem cells8_at : ∀ (G : Go8) (i : Nat) (p : AOp × Value), G[i]? = some p → ∀ j u, (opC p.1 p.2)[j]? = some u → (cells8 G)[i * 5 + j]? = some u := by
  intro G
  induction G with
  | nil => intro i p h; simp at h
  | cons x r ih =>
    intro i p h j u hj
    have hj5 : j < 5 := by
      have := (Array.getElem?_eq_some_iff.1 hj).1
      simpa [opC] using this
    have hxl : ((opC x.1 x.2).toList).length = 5 := by simp [opC]
    cases i with
    | zero =>
      simp at h
      subst h
      rw [cells8, List.flatMap_cons, List.getElem?_append_left (by rw [hxl]; omega)]
      simpa using hj
    | succ i =>
      have := ih i p (by simpa using h) j u hj
      rw [cells8, List.flatMap_cons, List.getElem?_append_right (by rw [hxl]; omega), hxl, show (i + 1) * 5 + j - 5 = i * 5 + j by omega]
      exact this

theorem ownRow_same {w w' : World} {B e size : Nat} {v : Value} {n : Nat} {xs : List Value} (h : w.ownsRow B e size v n xs) (hk : ∀ k, v.ownBlock = some k → w'.heap[k]? = w.heap[k]?) : w'.ownsRow B e size v n xs := by
  refine ⟨h.1, ?_⟩
  rcases h.2 with h0 | ⟨g, cap, cur, h1, h2, h3, h4⟩
  · exact .inl h0
  · subst h1
    exact .inr ⟨g, cap, cur, rfl, h2, by rw [hk g rfl]; exact h3, h4⟩

theorem ownRow_block {w : World} {B e size : Nat} {v : Value} {n : Nat} {xs : List Value} (h : w.ownsRow B e size v n xs) {k : Nat} (hk : v.ownBlock = some k) : ∃ cur, w.heap[k]? = some (.cells cur e (0, 0)) := by
  rcases h.2 with ⟨h0, _⟩ | ⟨g, cap, cur, h1, h2, h3, h4⟩
  · subst h0; simp [Value.ownBlock] at hk
  · subst h1
    simp [Value.ownBlock] at hk
    subst hk
    exact ⟨cur, h3⟩

theorem Wops.same {w w' : World} {ws : Value} {G : Go8} (h : Wops w ws G) (h1 : ∀ k, ws.ownBlock = some k → w'.heap[k]? = w.heap[k]?) (h2 : ∀ p ∈ G, ∀ k, p.2.ownBlock = some k → w'.heap[k]? = w.heap[k]?) : Wops w' ws G :=
  ⟨ownRow_same h.row h1, fun p hp => (h.text p hp).same (h2 p hp)⟩

theorem Wops.below {w w' : World} {ws : Value} {G : Go8} (h : Wops w ws G) (hb : Below w.heap.size w w') : Wops w' ws G :=
  h.same (fun k hk => hb.block k (World.ownsRow.lt h.row k hk).2) fun p hp k hk => hb.block k ((h.text p hp).lt hk).2

/-- The blocks of a list's operations are not those that an operation may write. -/
theorem Wops.kept {w w' : World} {ws : Value} {G : Go8} {d m : Nat} {F : Gf} {cs : Array Value} (h : Wops w ws G) (hb : Blk w d 98 cs) (hk : Keep w m F) (hap : ∀ p ∈ G, ∀ k, foot F k → p.2.ownBlock ≠ some k) (ho : OnlyS (fun k => k = d ∨ k = m ∨ foot F k) w w') : Wops w' ws G := by
  refine h.same (fun k hk' => ho.block k (World.ownsRow.lt h.row k hk').2 ?_) fun p hp k hk' => ho.block k ((h.text p hp).lt hk').2 ?_
  · obtain ⟨cur, hc⟩ := ownRow_block h.row hk'
    rintro (rfl | rfl | ⟨p, hp, hf⟩)
    · unfold Blk at hb
      rw [hc] at hb
      simp at hb
    · obtain ⟨es, clock, hm, _⟩ := hk.map
      rw [hc] at hm
      cases hm
    · obtain ⟨cur', hc'⟩ := (hk.row p hp).block hf
      rw [hc] at hc'
      simp at hc'
  · rintro (rfl | rfl | hf)
    · exact row_ne_blk (h.text p hp) hb (by decide) hk'
    · exact hk.ne (h.text p hp) hk'
    · exact hap p hp k hf hk'

theorem set_id {cs : Array Value} {o : Nat} {x : Value} (h : cs[o]? = some x) : cs.setIfInBounds o x = cs := by
  apply Array.ext_getElem?
  intro i
  by_cases hi : o = i
  · subst hi
    rw [Array.getElem?_setIfInBounds_self_of_lt (Array.getElem?_eq_some_iff.1 h).1, h]
  · rw [Array.getElem?_setIfInBounds_ne hi]

theorem done_start {w : World} {d o m : Nat} {F : Gf} {cs : Array Value} (hb : Blk w d 98 cs) (h1 : cs[o + 1]? = some (.int .i64 (tot (pr F) : Int))) (hk : Keep w m F) : Done w d o m F cs (pr F) w :=
  ⟨F, hk, rfl, by rw [set_id h1]; exact hb, OnlyS.refl _ _, fun _ h => .inl h⟩

/-- One more. -/
theorem Done.then {w w1 w2 : World} {d o m : Nat} {F F1 : Gf} {cs : Array Value} {L : Fs} (hk : Keep w m F) (hf1 : ∀ k, foot F1 k → foot F k ∨ w.heap.size ≤ k) (ho : OnlyS (fun k => k = d ∨ k = m ∨ foot F k) w w1)
    (h : Done w1 d o m F1 (cs.setIfInBounds (o + 1) (.int .i64 (tot (pr F1) : Int))) L w2) : Done w d o m F cs L w2 := by
  obtain ⟨F2, r1, r2, r3, r4, r5⟩ := h
  have _ := hk
  refine ⟨F2, r1, r2, by rw [set_twice] at r3; exact r3, ho.then r4 fun i hi h => ?_, fun k hk => ?_⟩
  · rcases h with h | h | h
    · exact .inl h
    · exact .inr (.inl h)
    · rcases hf1 i h with h | h
      · exact .inr (.inr h)
      · omega
  · rcases r5 k hk with h | h
    · exact hf1 k h
    · exact .inr (Nat.le_trans ho.size h)

theorem ops_index (W : World) (g n cap i : Nat) (hi : i < n) : (Instr.indexAt 96 (.slice (some ⟨g, 0, none⟩) n cap) (.int .i64 (i : Int))).run Tryz.prog W = .ok (.pointer (some ⟨g, i * 5, none⟩)) W := by
  have he : Tryz.prog.elem 96 = 145 := by kernel_rfl
  have hs : (Go.sizeOf 145).run Tryz.prog W = .ok 5 W := by kernel_rfl
  have ht : Tryz.prog.underlying 96 = some (.slice (Tryz.prog.elem 96)) := by rw [he]; exact Tryz.underlying96
  rw [run_indexAt_slice (h := ht), if_pos (by omega), he, hs]
  simp [Result.andThen, Addr.add]
  exact fun h => h.symm

theorem info_op5 (o : AOp) (v : Value) : (Tryz.prog.info? 145).map (·.size) = some (opC o v).toList.length := by
  have h : (Tryz.prog.info? 145).map (·.size) = some 5 := by kernel_rfl
  exact h

/-- The i-th operation. -/
theorem Wops.cells {w : World} {ws : Value} {G : Go8} (h : Wops w ws G) (i : Nat) (p : AOp × Value) (hp : G[i]? = some p) : ∃ g cap, ws = .slice (some ⟨g, 0, none⟩) G.length cap ∧ g < w.heap.size ∧
    ∀ j u, (opC p.1 p.2)[j]? = some u → w.cell? ⟨g, i * 5 + j, none⟩ = some u := by
  have hlt := (List.getElem?_eq_some_iff.1 hp).1
  rcases h.row.2 with ⟨_, h0⟩ | ⟨g, cap, cur, rfl, _, hg, hn, hm, hs, ht⟩
  · omega
  · refine ⟨g, cap, rfl, (Array.getElem?_eq_some_iff.1 hg).1, fun j u hu' => ?_⟩
    have hj5 : j < 5 := by
      have := (Array.getElem?_eq_some_iff.1 hu').1
      simpa [opC] using this
    rw [World.ownsRow.cellAt h.row _ (by omega)]
    exact cells8_at G i p hp j u hu'

def names8 (G : Go8) : List AOp := G.map (·.1)

/-- Between two operations. -/
def AllAt (w : World) (d o m : Nat) (F : Gf) (cs : Array Value) (G : Go8) (s8 : Value) (wr : World) : Prop :=
  ∃ i : Nat, i ≤ G.length ∧ s8 = .int .i64 i ∧ Done w d o m F cs (doAllA (names8 (G.take i)) (pr F)) wr

set_option maxHeartbeats 2000000 in
theorem doAll_any {w : World} {d o m : Nat} {F : Gf} {ws : Value} {G : Go8} {cs : Array Value} (hb : Blk w d 98 cs) (h0 : cs[o]? = some (.map (some m))) (h1 : cs[o + 1]? = some (.int .i64 (tot (pr F) : Int)))
    (hk : Keep w m F) (hf : Fit (pr F)) (hl : F.length + G.length ≤ 4095) (ho : ∀ p ∈ G, FitO p.1) (hw : Wops w ws G) (hap : ∀ p ∈ G, ∀ k, foot F k → p.2.ownBlock ≠ some k) :
    Calls Tryz.prog 47 #[fp d o, ws] w fun e w' => e = .returned (.tuple #[]) ∧ Done w d o m F cs (doAllA (names8 G) (pr F)) w' := by
  obtain ⟨ga, gc, hws⟩ : ∃ ga gc, ws = .slice ga G.length gc := by
    rcases hw.row.2 with ⟨rfl, h0⟩ | ⟨g, cap, cur, rfl, _⟩
    · exact ⟨none, 0, by rw [h0]⟩
    · exact ⟨_, _, rfl⟩
  subst hws
  obtain ⟨n, hn⟩ : ∃ n, n = G.length := ⟨_, rfl⟩
  have HStart := Lib.hid (done_start (o := o) hb h1 hk)
  have HB := Lib.hid hb
  have H0 := Lib.hid h0
  have H1 := Lib.hid h1
  have HK := Lib.hid hk
  have HF := Lib.hid hf
  have HL := Lib.hid hl
  have HO := Lib.hid ho
  have HW := Lib.hid hw
  have HAp := Lib.hid hap
  rw [← hn] at HW ⊢
  have HN := Lib.hid hn
  have hn4 : n ≤ 4095 := by omega
  clear hb h0 h1 hk hf hl ho hw hap hn
  go_enter Tryz.func47, Tryz.ntmps47
  go_wp2
  go_loopw [8] (fun s8 wr => AllAt w d o m F cs G s8 wr) (fun s8 _ => n - (intOf s8).toNat)
  case atStart => exact ⟨0, Nat.zero_le _, rfl, HStart.out⟩
  case round =>
    obtain ⟨i, hi, rfl, hd⟩ := hrel
    have hin : i ≤ n := by have := HN.out; omega
    have HD := Lib.hid hd
    clear hi hd
    by_cases hlt : i < n
    · obtain ⟨p, hp⟩ : ∃ p, G[i]? = some p := ⟨G[i]'(by have := HN.out; omega), List.getElem?_eq_getElem _⟩
      obtain ⟨F1, r1, r2, r3, r4, r5⟩ := HD.out
      have hwr := HW.out
      rw [HN.out] at hwr
      have hwr2 := hwr.kept HB.out HK.out HAp.out r4
      obtain ⟨g, cap, e, -, hload⟩ := hwr2.cells i p hp
      simp at e
      obtain ⟨rfl, rfl⟩ := e
      have hidx : ∀ W, (Instr.indexAt 96 (.slice (some ⟨g, 0, none⟩) n gc) (.int .i64 (i : Int))).run Tryz.prog W = .ok (.pointer (some ⟨g, i * 5, none⟩)) W := fun W => ops_index W g n gc i hlt
      obtain ⟨j, hj⟩ : ∃ j, j = i * 5 := ⟨_, rfl⟩
      rw [← hj] at hload hidx
      have hpm := List.mem_of_getElem? hp
      have hfit := HO.out p hpm
      have hrow := hwr2.text p hpm
      have hfoot : ∀ k, foot F1 k → p.2.ownBlock ≠ some k := fun k hk e => by
        rcases r5 k hk with h | h
        · exact HAp.out p hpm k h e
        · have := ((hwr.text p hpm).lt e).2
          omega
      have hl1 : F1.length ≤ 4095 := by
        have e1 := congrArg List.length r2
        rw [pr_length] at e1
        have e2 := length_doAll (names8 (G.take i)) (pr F)
        rw [pr_length] at e2
        have e3 : (names8 (G.take i)).length ≤ n := by simp [names8]; omega
        have := HL.out
        have := HN.out
        omega
      have hf1 : Fit (pr F1) := by
        rw [r2]
        refine fit_doAll _ _ HF.out fun q hq => ?_
        obtain ⟨x, hx, rfl⟩ := List.mem_map.1 hq
        exact HO.out x (List.mem_of_mem_take hx)
      rw [← r2] at r3
      have hsn : names8 (G.take (i + 1)) = names8 (G.take i) ++ [p.1] := by
        obtain ⟨hi', rfl⟩ := List.getElem?_eq_some_iff.1 hp
        rw [List.take_succ_eq_append_getElem hi', names8, names8, List.map_append]
        rfl
      have hb1 : Below wr.heap.size wr (wr.alloc (.cells (opC p.1 p.2) 145)) := (Below.refl _ _).alloc (Nat.le_refl _) _
      have hdo := do_any (o := o) (r3.keep hb1) (by rw [set_get_ne]; exact H0.out) (set_get_same cs o _ _ H1.out) (r1.below hb1) hf1 hl1 hfit (hrow.below hb1) hfoot
      have hnext : ∀ w', Done (wr.alloc (.cells (opC p.1 p.2) 145)) d o m F1 (cs.setIfInBounds (o + 1) (.int .i64 (tot (pr F1) : Int))) (doA p.1 (pr F1)) w' → AllAt w d o m F cs G (.int .i64 ((i + 1 : Nat) : Int)) w' := fun w' hd => by
        refine ⟨i + 1, by have := HN.out; omega, rfl, ?_⟩
        rw [hsn, doAllA_snoc, ← r2]
        refine Done.then HK.out (F1 := F1) r5 r4 ?_
        obtain ⟨F2, s1, s2, s3, s4, s5⟩ := hd
        exact ⟨F2, s1, s2, s3, (OnlyS.of_below (S := fun k => k = d ∨ k = m ∨ foot F1 k) hb1 fun k hk _ => hk).then s4 fun _ _ h => h, fun k hk => by
          rcases s5 k hk with h | h
          · exact .inl h
          · exact .inr (Nat.le_trans hb1.size h)⟩
      have HNext := Lib.hid hnext
      have HDo := Lib.hid hdo
      obtain ⟨⟨k, nn, q, a, b⟩, v⟩ := p
      simp only [opC] at hload HDo HNext
      have l0 := hload 0 _ rfl
      have l1 := hload 1 _ rfl
      have l2 := hload 2 _ rfl
      have l3 := hload 3 _ rfl
      have l4 := hload 4 _ rfl
      simp only [Nat.add_zero] at l0
      clear hload
      obtain ⟨N, hN⟩ : ∃ N, nm nn = .string N := ⟨_, rfl⟩
      obtain ⟨M, hM⟩ : ∃ M, nm q = .string M := ⟨_, rfl⟩
      rw [hN, hM] at HDo HNext
      rw [hN] at l1
      rw [hM] at l2
      obtain ⟨va, vc, hv, -⟩ := row_form hrow
      simp only at hv
      subst hv
      have i0 : (0 : Int) ≤ (i : Int) := Int.natCast_nonneg _
      have i1 : (i : Int) < (n : Int) := by omega
      clear hp r1 r2 r3 r4 r5 hwr hwr2 hj hpm hfit hrow hfoot hl1 hf1 hsn hb1 hdo hnext hN hM
      go_wp2_with fail
      refine HDo.out.mono ?_
      rintro e w' ⟨rfl, hd⟩
      have HE := Lib.hid (HNext.out w' hd)
      clear hd l0 l1 l2 l3 l4 hidx
      go_wp2
      go_roundw
      case rel => 
        have h := HE.out
        rw [show ((i + 1 : Nat) : Int) = (i : Int) + 1 by omega] at h
        exact h
      case measure => simp [intOf]; omega
    · obtain rfl : i = n := by omega
      have hd := HD.out
      rw [List.take_of_length_le (by have := HN.out; omega)] at hd
      have HD2 := Lib.hid hd
      clear hd HD
      go_wp2
      go_end0
      exact ⟨rfl, HD2.out⟩
end Go.Proofs.YthaggdkfaglgaaaGreatDoor

/- bytes.Clone, isName, noFiles. -/
namespace Go.Proofs.YthaggdkfaglgaaaGreatDoor
set_option maxRecDepth 20000
open Go.RowKit Go.Maps DiskMath

set_option maxHeartbeats 400000 in
theorem clone_any (a : Option Addr) (n c : Nat) (l : List UInt8) (w : World) (h : Bys w (.slice a n c) l) (hl : l.length ≤ 140737488355328) :
    Calls Tryz.prog 57 #[.slice a n c] w fun e w' => ∃ v', e = .returned v' ∧ Row w' w.heap.size v' l ∧ Below w.heap.size w w' := by
  have HX := Lib.hid h
  have qT : ∀ (w : World) (a : Option Addr) (n c n' c' : Nat), (binOp .eql 27 (.slice a n c) (.slice none n' c')).run Tryz.prog w = .ok (.bool a.isNone) w := fun w a n c n' c' => Lib.run_eql_slice_nil w _ _ a n c n' c' Tryz.underlying27
  rcases h with ⟨h1, rfl⟩ | ⟨ad, cap, h1, hc⟩
  · simp at h1
    obtain ⟨rfl, rfl, rfl⟩ := h1
    go_enter Tryz.func57, Tryz.ntmps57
    go_wp2
    go_ret
    exact ⟨_, rfl, World.ownsRow_nil _ _ _ _, Below.refl _ _⟩
  · simp at h1
    obtain ⟨rfl, rfl, rfl⟩ := h1
    clear hc
    have A1 := Lib.hid (append_lit (B := w.heap.size) (Nat.le_refl _) (heap_alloc_new w (.cells #[] 5)) (HX.out.below (Nat.le_refl _) ((Below.refl _ _).alloc (Nat.le_refl _) (.cells #[] 5))) hl)
    obtain ⟨m, hm⟩ : ∃ m, m = l.length := ⟨_, rfl⟩
    rw [← hm] at A1 ⊢
    clear hm
    go_enter Tryz.func57, Tryz.ntmps57
    go_wp2_with (at_builtin; refine wpList_append_by rfl _ _ 27 rfl _ _ rfl rfl _ A1.out ?_; rintro x w2 ⟨hr2, hb2⟩; (have HR2 := Lib.hid hr2); (have HB2 := Lib.hid hb2); clear hr2 hb2)
    go_ret
    exact ⟨_, rfl, HR2.out, ((Below.refl _ _).alloc (Nat.le_refl _) (.cells #[] 5)).trans (HB2.out.mono (by simp))⟩

theorem keep_new (w : World) : Keep (w.alloc (.map #[] 0)) w.heap.size [] :=
  ⟨World.ownsMap_made w Tryz.prog 9 tokR, (fun p hp => by cases hp), List.Pairwise.nil⟩

theorem noFiles_any (w : World) : Calls Tryz.prog 58 #[] w fun e w' => ∃ m, e = .returned (.agg #[.map (some m), .int .i64 0]) ∧ Keep w' m [] ∧ Below w.heap.size w w' ∧ w.heap.size ≤ m := by
  have hmk : ∀ W, (Instr.makeMap 93 none).run Tryz.prog W = .ok (.map (some W.heap.size)) (W.alloc (.map #[] 0)) := fun W => rfl
  go_enter Tryz.func58, Tryz.ntmps58
  go_wp2
  refine bodyPost_ret (v := .agg #[.map (some (w.heap.size + 1)), .int .i64 0]) (results_cell_row rfl _ _ w.heap.size 95 #[.map (some (w.heap.size + 1)), .int .i64 0] (0, 0) _ rfl ?_ Tryz.underlying95 rfl (by kernel_rfl)) rfl ?_
  · exact Blk.alloc (Blk.new w _ _) _
  · refine ⟨w.heap.size + 1, rfl, ?_, ((Below.refl _ _).alloc (Nat.le_refl _) _).alloc (by simp) _, by omega⟩
    have h := keep_new (w.alloc (.cells #[.map (some (w.heap.size + 1)), .int .i64 0] 95))
    simpa using h

set_option maxHeartbeats 1000000 in
theorem isName_any (n : Nm) (w : World) (hn : n.length ≤ 9223372036854775807) : Calls Tryz.prog 154 #[nm n] w fun e w' => e = .returned (.bool (named n)) ∧ w = w' := by
  obtain ⟨S, hS⟩ : ∃ S : ByteArray, nm n = .string S := ⟨_, rfl⟩
  have hsz : S.size = n.length := by
    unfold nm at hS
    cases hS
    show n.toArray.size = _
    simp
  have hget : ∀ (i : Nat) (h : i < S.size) (h' : i < n.length), (S[i]'h).toNat = (n[i]'h').toNat := fun i h h' => by
    unfold nm at hS
    cases hS
    rfl
  rw [hS]
  by_cases h1 : n.length < 1
  · have hr : named n = false := by unfold named; simp; omega
    have b1 : decide ((n.length : Int) < 1) = true := by simp; omega
    rw [hr]
    go_enter Tryz.func154, Tryz.ntmps154
    go_wp2
    all_goals first | (go_ret; exact ⟨rfl, rfl⟩) | skip
  by_cases h2 : 16 < n.length
  · have hr : named n = false := by unfold named; simp; omega
    have b1 : decide ((n.length : Int) < 1) = false := by simp; omega
    have b2 : decide (16 < (n.length : Int)) = true := by simp; omega
    rw [hr]
    go_enter Tryz.func154, Tryz.ntmps154
    go_wp2
    all_goals first | (go_ret; exact ⟨rfl, rfl⟩) | skip
  have b1 : decide ((n.length : Int) < 1) = false := by simp; omega
  have b2 : decide (16 < (n.length : Int)) = false := by simp; omega
  obtain ⟨L, hL⟩ : ∃ L, L = n.length := ⟨_, rfl⟩
  rw [← hL] at b1 b2 hsz h1 h2
  have HL := Lib.hid hL
  clear hL hn
  go_enter Tryz.func154, Tryz.ntmps154
  go_wp2
  go_loop [15] (fun s15 => ∃ i : Nat, i ≤ L ∧ s15 = .int .i64 i ∧ (n.take i).all okC = true) (fun s15 => L - (intOf s15).toNat)
  case atStart => exact ⟨0, Nat.zero_le _, rfl, rfl⟩
  case round =>
    obtain ⟨i, hi, rfl, hall⟩ := hrel
    have HAll := Lib.hid hall
    clear hall b1 b2
    by_cases hlt : i < L
    · have i0 : (0 : Int) ≤ (i : Int) := Int.natCast_nonneg _
      have i1 : (i : Int) < (L : Int) := by omega
      have hin : i < n.length := by have := HL.out; omega
      have hbad : okC n[i] = false → named n = false := fun h => by
        unfold named
        rw [Bool.and_eq_false_iff]
        right
        rw [List.all_eq_false]
        exact ⟨n[i], List.getElem_mem _, by rw [h]; simp⟩
      have hgood : okC n[i] = true → (n.take (i + 1)).all okC = true := fun h => by
        rw [List.take_succ_eq_append_getElem hin, List.all_append, HAll.out]
        simp [h]
      have HBad := Lib.hid hbad
      have HGood := Lib.hid hgood
      have HG := Lib.hid (hget i (by omega) hin)
      clear hbad hgood
      go_wp2
      all_goals try
        (refine ⟨⟨i + 1, by omega, by go_num, HGood.out ?_⟩, by simp [intOf]; omega⟩
         have h := HG.out
         unfold okC
         simp only [Bool.or_eq_true, Bool.and_eq_true, Bool.not_eq_false', decide_eq_true_eq, beq_iff_eq] at *
         omega)
      all_goals
        refine bodyPost_ret (v := .bool false) (by simp [results, Tryz.results154, go_sem]) rfl ⟨?_, rfl⟩
        have h := HG.out
        rw [HBad.out (by unfold okC; simp only [Bool.not_eq_true', Bool.or_eq_false_iff, Bool.and_eq_false_iff, decide_eq_false_iff_not, beq_eq_false_iff_ne, ne_eq] at *; omega)]
    · obtain rfl : i = L := by omega
      have hr : named n = true := by
        have h := HAll.out
        rw [List.take_of_length_le (by have := HL.out; omega)] at h
        have := HL.out
        unfold named
        rw [h]
        simp
        omega
      have HR := Lib.hid hr
      clear hr hget
      go_wp2
      exact bodyPost_ret (v := .bool true) (by simp [results, Tryz.results154, go_sem]) rfl ⟨by rw [HR.out], rfl⟩
end Go.Proofs.YthaggdkfaglgaaaGreatDoor

/- A disk in the program's memory: what it is, what keeps it; its small methods. -/
namespace Go.Proofs.YthaggdkfaglgaaaGreatDoor
set_option maxRecDepth 20000
open Go.RowKit Go.Maps DiskMath

abbrev dp (d : Nat) : Value := .pointer (some ⟨d, 0, none⟩)

/-- The cells of a disk. -/
def dC (s : St) (m1 m2 : Nat) (ws : Value) : Array Value := #[.int .i64 (max s.room 0), .bool s.off, .int .i64 s.fuse, .map (some m1), .int .i64 (tot s.now : Int), .map (some m2), .int .i64 (tot s.sure : Int), ws]

/-- A disk: its maps, its files, what waits. -/
structure Dk (w : World) (d c : Nat) (s : St) (m1 m2 : Nat) (F1 F2 : Gf) (ws : Value) (G : Go8) : Prop where
  blk : Blk w d 98 (dC s m1 m2 ws)
  k1 : Keep w m1 F1
  p1 : pr F1 = s.now
  k2 : Keep w m2 F2
  p2 : pr F2 = s.sure
  wops : Wops w ws G
  pw : names8 G = s.ops
  ok : Ok c s
  small : c ≤ 2000
  ne : m1 ≠ m2
  ap : ∀ k, foot F1 k → ¬ foot F2 k
  apo : ∀ p ∈ G, ∀ k, p.2.ownBlock = some k → ¬ foot F1 k ∧ ¬ foot F2 k
  fuse : -1 ≤ s.fuse ∧ s.fuse ≤ 9223372036854775807

/-- The blocks of a disk. -/
def tk (d m1 m2 : Nat) (F1 F2 : Gf) (ws : Value) (G : Go8) (k : Nat) : Prop := k = d ∨ k = m1 ∨ k = m2 ∨ foot F1 k ∨ foot F2 k ∨ ws.ownBlock = some k ∨ ∃ p ∈ G, p.2.ownBlock = some k

theorem Dk.lt {w : World} {d c : Nat} {s : St} {m1 m2 : Nat} {F1 F2 : Gf} {ws : Value} {G : Go8} (h : Dk w d c s m1 m2 F1 F2 ws G) {k : Nat} (hk : tk d m1 m2 F1 F2 ws G k) : k < w.heap.size := by
  rcases hk with rfl | rfl | rfl | hk | hk | hk | ⟨p, hp, hk⟩
  · exact h.blk.lt
  · exact h.k1.lt
  · exact h.k2.lt
  · exact h.k1.foot_lt hk
  · exact h.k2.foot_lt hk
  · exact (World.ownsRow.lt h.wops.row k hk).2
  · exact ((h.wops.text p hp).lt hk).2

theorem Dk.same {w w' : World} {d c : Nat} {s : St} {m1 m2 : Nat} {F1 F2 : Gf} {ws : Value} {G : Go8} (h : Dk w d c s m1 m2 F1 F2 ws G) (hs : ∀ k, tk d m1 m2 F1 F2 ws G k → w'.heap[k]? = w.heap[k]?) : Dk w' d c s m1 m2 F1 F2 ws G :=
  { h with
    blk := by unfold Blk; rw [hs d (.inl rfl)]; exact h.blk
    k1 := h.k1.same (hs m1 (.inr (.inl rfl))) fun k hk => hs k (.inr (.inr (.inr (.inl hk))))
    k2 := h.k2.same (hs m2 (.inr (.inr (.inl rfl)))) fun k hk => hs k (.inr (.inr (.inr (.inr (.inl hk)))))
    wops := h.wops.same (fun k hk => hs k (.inr (.inr (.inr (.inr (.inr (.inl hk))))))) fun p hp k hk => hs k (.inr (.inr (.inr (.inr (.inr (.inr ⟨p, hp, hk⟩)))))) }

/-- A disk; its blocks are among T. -/
structure IsDisk (w : World) (T : Nat → Prop) (d c : Nat) (s : St) : Prop where
  ex : ∃ m1 m2 F1 F2 ws G, Dk w d c s m1 m2 F1 F2 ws G ∧ ∀ k, tk d m1 m2 F1 F2 ws G k → T k
  lt : ∀ k, T k → k < w.heap.size

theorem IsDisk.same {w w' : World} {T : Nat → Prop} {d c : Nat} {s : St} (h : IsDisk w T d c s) (hs : ∀ k, T k → w'.heap[k]? = w.heap[k]?) (hl : w.heap.size ≤ w'.heap.size) : IsDisk w' T d c s := by
  obtain ⟨m1, m2, F1, F2, ws, G, hd, ht⟩ := h.ex
  exact ⟨⟨m1, m2, F1, F2, ws, G, hd.same fun k hk => hs k (ht k hk), ht⟩, fun k hk => Nat.lt_of_lt_of_le (h.lt k hk) hl⟩

theorem IsDisk.below {w w' : World} {T : Nat → Prop} {d c : Nat} {s : St} (h : IsDisk w T d c s) (hb : Below w.heap.size w w') : IsDisk w' T d c s := h.same (fun k hk => hb.block k (h.lt k hk)) hb.size

/-- What a call leaves that may write a disk of blocks T. -/
structure Next (w : World) (T : Nat → Prop) (d c : Nat) (s : St) (w' : World) : Prop where
  disk : IsDisk w' (fun k => T k ∨ (w.heap.size ≤ k ∧ k < w'.heap.size)) d c s
  only : OnlyS T w w'

theorem Next.of {w w' : World} {T : Nat → Prop} {d c : Nat} {s : St} {m1 m2 : Nat} {F1 F2 : Gf} {ws : Value} {G : Go8} (hlt : ∀ k, T k → k < w.heap.size) (ho : OnlyS T w w') (hd : Dk w' d c s m1 m2 F1 F2 ws G) (ht : ∀ k, tk d m1 m2 F1 F2 ws G k → T k ∨ w.heap.size ≤ k) : Next w T d c s w' :=
  ⟨⟨⟨m1, m2, F1, F2, ws, G, hd, fun k hk => by
    rcases ht k hk with h | h
    · exact .inl h
    · exact .inr ⟨h, hd.lt hk⟩⟩, fun k hk => by
    rcases hk with h | h
    · exact Nat.lt_of_lt_of_le (hlt k h) ho.size
    · exact h.2⟩, ho⟩

theorem Next.refl {w : World} {T : Nat → Prop} {d c : Nat} {s : St} (h : IsDisk w T d c s) : Next w T d c s w := by
  obtain ⟨m1, m2, F1, F2, ws, G, hd, ht⟩ := h.ex
  exact Next.of h.lt (OnlyS.refl _ _) hd fun k hk => .inl (ht k hk)

theorem IsDisk.mono {w : World} {T : Nat → Prop} {d c c' : Nat} {s : St} (h : IsDisk w T d c s) (hc : c ≤ c') (h2 : c' ≤ 2000) : IsDisk w T d c' s := by
  obtain ⟨m1, m2, F1, F2, ws, G, hd, ht⟩ := h.ex
  exact ⟨⟨m1, m2, F1, F2, ws, G, { hd with ok := { hd.ok with few := Nat.le_trans hd.ok.few hc }, small := h2 }, ht⟩, h.lt⟩

theorem Next.mono {w w' : World} {T : Nat → Prop} {d c c' : Nat} {s : St} (h : Next w T d c s w') (hc : c ≤ c') (h2 : c' ≤ 2000) : Next w T d c' s w' := ⟨h.disk.mono hc h2, h.only⟩

/-- Cells of a disk that are known. -/
theorem Dk.cells {w : World} {d c : Nat} {s : St} {m1 m2 : Nat} {F1 F2 : Gf} {ws : Value} {G : Go8} (h : Dk w d c s m1 m2 F1 F2 ws G) (i : Nat) : w.cell? ⟨d, i, none⟩ = (dC s m1 m2 ws)[i]? := Blk.cell h.blk i

/-- One cell of the disk's block is written: the room, whether it is down, the fuse, what waits. -/
theorem Dk.set {w : World} {d c : Nat} {s s' : St} {m1 m2 : Nat} {F1 F2 : Gf} {ws : Value} {G : Go8} (h : Dk w d c s m1 m2 F1 F2 ws G) (i : Nat) (u : Value) (hc : dC s' m1 m2 ws = (dC s m1 m2 ws).setIfInBounds i u)
    (h1 : s'.now = s.now) (h2 : s'.sure = s.sure) (h3 : s'.ops = s.ops) (h4 : -1 ≤ s'.fuse ∧ s'.fuse ≤ 9223372036854775807) : Dk (w.setCell ⟨d, i, none⟩ u) d c s' m1 m2 F1 F2 ws G := by
  have hne : ∀ k, ws.ownBlock = some k → k ≠ d := fun k hk e => by
    obtain ⟨cur, hcu⟩ := ownRow_block h.wops.row hk
    have hb := h.blk
    unfold Blk at hb
    rw [← e, hcu] at hb
    simp at hb
  have hoth : ∀ k, k ≠ d → (w.setCell ⟨d, i, none⟩ u).heap[k]? = w.heap[k]? := fun k hk => heap_setCell_other w ⟨d, i, none⟩ k u hk
  exact {
    blk := by rw [hc]; exact Blk.set h.blk i u
    k1 := h.k1.setBlk h.blk (by decide) i u
    p1 := by rw [h1]; exact h.p1
    k2 := h.k2.setBlk h.blk (by decide) i u
    p2 := by rw [h2]; exact h.p2
    wops := h.wops.same (fun k hk => hoth k (hne k hk)) fun p hp k hk => hoth k fun e => row_ne_blk (h.wops.text p hp) h.blk (by decide) (by rw [hk, e])
    pw := by rw [h3]; exact h.pw
    ok := ⟨by rw [h1, h2, h3]; exact h.ok.now, by rw [h2]; exact h.ok.rise, by rw [h2]; exact h.ok.fit, by rw [h3]; exact h.ok.fitO, by rw [h2, h3]; exact h.ok.few⟩
    small := h.small
    ne := h.ne
    ap := h.ap
    apo := h.apo
    fuse := h4 }

theorem down_any {w : World} {d c : Nat} {s : St} {m1 m2 : Nat} {F1 F2 : Gf} {ws : Value} {G : Go8} (h : Dk w d c s m1 m2 F1 F2 ws G) : Calls Tryz.prog 18 #[dp d] w fun e w' => e = .returned (.bool s.off) ∧ w = w' := by
  have c1 : w.cell? ⟨d, 1, none⟩ = some (.bool s.off) := by rw [h.cells]; rfl
  obtain ⟨b, hb⟩ : ∃ b, b = s.off := ⟨_, rfl⟩
  rw [← hb] at c1 ⊢
  clear h hb
  go_enter Tryz.func18, Tryz.ntmps18
  go_wp2
  go_ret
  exact ⟨rfl, rfl⟩

theorem used_any {w : World} {d c : Nat} {s : St} {m1 m2 : Nat} {F1 F2 : Gf} {ws : Value} {G : Go8} (h : Dk w d c s m1 m2 F1 F2 ws G) : Calls Tryz.prog 23 #[dp d] w fun e w' => e = .returned (.int .i64 (tot s.now : Int)) ∧ w = w' := by
  have c4 : w.cell? ⟨d, 4, none⟩ = some (.int .i64 (tot s.now : Int)) := by rw [h.cells]; rfl
  obtain ⟨b, hb⟩ : ∃ b, b = tot s.now := ⟨_, rfl⟩
  rw [← hb] at c4 ⊢
  clear h hb
  go_enter Tryz.func23, Tryz.ntmps23
  go_wp2
  go_ret
  exact ⟨rfl, rfl⟩

theorem room_any {w : World} {T : Nat → Prop} {d c : Nat} {s : St} (h : IsDisk w T d c s) (x : Int) : Calls Tryz.prog 22 #[dp d, .int .i64 x] w fun e w' => e = .returned (.tuple #[]) ∧ Next w T d c { s with room := x } w' := by
  obtain ⟨m1, m2, F1, F2, ws, G, hd, ht⟩ := h.ex
  have f0 : w.frozen? ⟨d, 0, none⟩ = false := Blk.frozen hd.blk 0
  have c0 : w.cell? ⟨d, 0, none⟩ = some (.int .i64 (max s.room 0)) := by rw [hd.cells]; rfl
  obtain ⟨r, hr⟩ : ∃ r, r = max s.room 0 := ⟨_, rfl⟩
  obtain ⟨y, hy⟩ : ∃ y, y = max x 0 := ⟨_, rfl⟩
  have hmax : ∀ (ts : Array TypeId) (ty : TypeId) (W : World), (Builtin.max_ ts ty #[.int .i64 x, .int .i64 0]).run Tryz.prog W = .ok (.int .i64 y) W := fun ts ty W => by
    have e : (if (0 : Int) > x then 0 else x) = y := by omega
    rw [run_max_int2, e]
  rw [← hr] at c0
  have HN := Lib.hid (Next.of h.lt ((only_set w d 0 (.int .i64 y)).mono fun k _ e => ht k (.inl e)) (hd.set (s' := { s with room := x }) 0 (.int .i64 y) (by rw [hy]; rfl) rfl rfl rfl hd.fuse) fun k hk => .inl (ht k hk))
  clear h hd ht hr hy
  go_enter Tryz.func22, Tryz.ntmps22
  go_wp2
  go_end0
  exact ⟨rfl, HN.out⟩

theorem fuse_any {w : World} {T : Nat → Prop} {d c : Nat} {s : St} (h : IsDisk w T d c s) (x : Int) (hx : x ≤ 9223372036854775807) : Calls Tryz.prog 15 #[dp d, .int .i64 x] w fun e w' => e = .returned (.tuple #[]) ∧ Next w T d c { s with fuse := max x (-1) } w' := by
  obtain ⟨m1, m2, F1, F2, ws, G, hd, ht⟩ := h.ex
  have f0 : w.frozen? ⟨d, 2, none⟩ = false := Blk.frozen hd.blk 2
  have c0 : w.cell? ⟨d, 2, none⟩ = some (.int .i64 s.fuse) := by rw [hd.cells]; rfl
  obtain ⟨r, hr⟩ : ∃ r, r = s.fuse := ⟨_, rfl⟩
  obtain ⟨y, hy⟩ : ∃ y, y = max x (-1) := ⟨_, rfl⟩
  have hmax : ∀ (ts : Array TypeId) (ty : TypeId) (W : World), (Builtin.max_ ts ty #[.int .i64 x, .int .i64 (-1)]).run Tryz.prog W = .ok (.int .i64 y) W := fun ts ty W => by
    have e : (if (-1 : Int) > x then -1 else x) = y := by omega
    rw [run_max_int2, e]
  rw [← hr] at c0
  have HN := Lib.hid (Next.of h.lt ((only_set w d 2 (.int .i64 y)).mono fun k _ e => ht k (.inl e)) (hd.set (s' := { s with fuse := max x (-1) }) 2 (.int .i64 y) (by rw [hy]; rfl) rfl rfl rfl (by show -1 ≤ max x (-1) ∧ max x (-1) ≤ 9223372036854775807; omega)) fun k hk => .inl (ht k hk))
  clear h hd ht hr hy hx
  go_enter Tryz.func15, Tryz.ntmps15
  go_wp2
  go_end0
  exact ⟨rfl, HN.out⟩

/-- The fuse burns. -/
theorem burn_any {w : World} {d c : Nat} {s : St} {m1 m2 : Nat} {F1 F2 : Gf} {ws : Value} {G : Go8} (h : Dk w d c s m1 m2 F1 F2 ws G) : Calls Tryz.prog 146 #[dp d] w fun e w' => e = .returned (.bool (decide (s.fuse ≠ 0))) ∧ Dk w' d c s.burn m1 m2 F1 F2 ws G ∧ OnlyS (fun k => k = d) w w' := by
  have f1 : w.frozen? ⟨d, 1, none⟩ = false := Blk.frozen h.blk 1
  have f2 : w.frozen? ⟨d, 2, none⟩ = false := Blk.frozen h.blk 2
  have c1 : w.cell? ⟨d, 1, none⟩ = some (.bool s.off) := by rw [h.cells]; rfl
  have c2 : w.cell? ⟨d, 2, none⟩ = some (.int .i64 s.fuse) := by rw [h.cells]; rfl
  have hf := h.fuse
  obtain ⟨x, hx⟩ : ∃ x, x = s.fuse := ⟨_, rfl⟩
  obtain ⟨b, hb⟩ : ∃ b, b = s.off := ⟨_, rfl⟩
  rw [← hx] at c2 hf ⊢
  rw [← hb] at c1
  have HX := Lib.hid hx
  by_cases h0 : x = 0
  · have e1 : s.burn = { s with off := true } := by unfold St.burn; rw [if_pos (by omega)]
    have hd := h.set (s' := s.burn) 1 (.bool true) (by rw [e1]; rfl) (by rw [e1]) (by rw [e1]) (by rw [e1]) (by rw [e1]; exact h.fuse)
    have HD := Lib.hid hd
    have eb : decide (x ≠ 0) = false := by simp [h0]
    rw [eb]
    subst h0
    clear h hd hx hb e1 eb
    go_enter Tryz.func146, Tryz.ntmps146
    go_wp2
    go_ret
    exact ⟨rfl, HD.out, only_set w d 1 _⟩
  · have eb : decide (x ≠ 0) = true := by simp [h0]
    have i0 : (x == 0) = false := by simpa using h0
    rw [eb]
    by_cases hp : 0 < x
    · have e1 : s.burn = { s with fuse := s.fuse - 1 } := by unfold St.burn; rw [if_neg (by omega), if_pos (by omega)]
      have hd := h.set (s' := s.burn) 2 (.int .i64 (x - 1)) (by rw [e1, hx]; rfl) (by rw [e1]) (by rw [e1]) (by rw [e1]) (by rw [e1]; show -1 ≤ s.fuse - 1 ∧ s.fuse - 1 ≤ 9223372036854775807; omega)
      have HD := Lib.hid hd
      clear h hd hx hb e1 eb
      go_enter Tryz.func146, Tryz.ntmps146
      go_wp2
      go_ret
      exact ⟨rfl, HD.out, only_set w d 2 _⟩
    · have e1 : s.burn = s := by unfold St.burn; rw [if_neg (by omega), if_neg (by omega)]
      rw [e1]
      have HD := Lib.hid h
      clear h hx hb e1 eb
      go_enter Tryz.func146, Tryz.ntmps146
      go_wp2
      go_ret
      exact ⟨rfl, HD.out, OnlyS.refl _ _⟩
end Go.Proofs.YthaggdkfaglgaaaGreatDoor

/- run: an operation done by a disk, which waits then. -/
namespace Go.Proofs.YthaggdkfaglgaaaGreatDoor
set_option maxRecDepth 20000
open Go.RowKit Go.Maps DiskMath Reg

theorem load_ops (W : World) (p : Addr) (v : Value) (h : W.cell? p = some v) : (Instr.loadAt 96 (.pointer (some p))).run Tryz.prog W = .ok v W := by
  have hagg : (isAgg 96).run Tryz.prog W = .ok false W := by kernel_rfl
  simp [Instr.loadAt, Instr.sureAddr, loadVar, Sem.run_bind, hagg, h]

/-- How run ends. -/
structure RunEnd (w : World) (d c : Nat) (s : St) (m1 m2 : Nat) (F1 F2 : Gf) (ws : Value) (G : Go8) (v : Value) (w' : World) : Prop where
  ex : ∃ F1' ws' G', Dk w' d c s m1 m2 F1' F2 ws' G' ∧ ∀ k, tk d m1 m2 F1' F2 ws' G' k → tk d m1 m2 F1 F2 ws G k ∨ v.ownBlock = some k ∨ w.heap.size ≤ k
  only : OnlyS (tk d m1 m2 F1 F2 ws G) w w'

theorem cells8_snoc (G : Go8) (o : AOp) (v : Value) : cells8 (G ++ [(o, v)]) = cells8 G ++ (opC o v).toList := by simp [cells8]

theorem info_op : (Tryz.prog.info? 145).map (fun i => (i.zero, i.size, i.bytes)) = some (some (.agg #[.int .i64 0, .string ⟨#[]⟩, .string ⟨#[]⟩, .int .i64 0, .slice none 0 0]), 5, 72) := by kernel_rfl

theorem one_op (o : AOp) (v : Value) (hv : v.oneCell' = true) : ∀ u ∈ (opC o v).toList, u.oneCell' = true := by
  intro u hu
  simp [opC, nm] at hu
  rcases hu with rfl | rfl | rfl | rfl | rfl <;> first | rfl | exact hv

/-- append(v, one), the row that was there told, too. -/
theorem append_one {P : Program} (w : World) (t ty e : TypeId) (i : TypeInfo) (z : Value) (size bytes : Nat) (ht : P.underlying t = some (.slice e)) (hi : P.info? e = some i) (hz : i.zero = some z)
    (hsize : i.size = size) (hby : i.bytes = bytes) (hzs : z.cells.size = size) (hsz : 0 < size) (v : Value) (n : Nat) (xs : List Value) (hown : w.ownsRow 0 e size v n xs)
    (x : Nat) (cs : Array Value) (hx : Blk w x e cs) (hl : cs.size = size) (h1 : ∀ u ∈ cs.toList, u.oneCell' = true) (hn : n ≤ 100000) (hb : bytes ≤ 10000) :
    ∃ v' w', (Builtin.append_ #[t, t] ty #[v, .slice (some ⟨x, 0, none⟩) 1 1]).run P w = .ok v' w' ∧ (w'.ownsRow 0 e size v' (n + 1) (xs ++ cs.toList) ∧ w'.ownsRow 0 e size v n xs ∧ OnlyS (fun k => v.ownBlock = some k) w w' ∧ Near w v v') := by
  subst hsize
  subst hby
  have hnb : (n + 1) * i.bytes ≤ 140737488355328 := Nat.le_trans (Nat.mul_le_mul (show n + 1 ≤ 100001 by omega) hb) (by decide)
  have hnews : ∀ j u, cs.toList[j]? = some u → w.cell? ((⟨x, 0, none⟩ : Addr).add j) = some u := fun j u hj => by rw [addr_add, Nat.zero_add, hx.cell]; simpa using hj
  have hcl : cs.toList.length = 1 * i.size := by rw [Array.length_toList, hl]; omega
  have hlen : (xs ++ cs.toList).length = (n + 1) * i.size := by rw [List.length_append, hown.1, hcl, Nat.add_mul]
  have grown : ∀ (old : Nat), old < n + 1 → (w.drew.alloc (.cells (xs.toArray ++ cs.toList.toArray ++ Builtin.zeroCells z.cells (grownCap w (n + 1) old e - (n + 1))) e)).ownsRow 0 e i.size
      (.slice (some ⟨w.heap.size, 0, none⟩) (n + 1) (grownCap w (n + 1) old e)) (n + 1) (xs ++ cs.toList) := by
    intro old ho
    have hge := grownCap_ge w (n + 1) old e
    have hcm : grownCap w (n + 1) old e ≤ maxLen := grownCap_le_maxLen w (n + 1) old e (by unfold maxLen; omega)
    refine ⟨hlen, .inr ⟨w.heap.size, _, _, rfl, Nat.zero_le _, heap_alloc_new w.drew _, hge, hcm, ?_, ?_⟩⟩
    · simp only [Array.size_append, List.size_toArray, size_zeroCells, hzs, hown.1, hcl, ← Nat.add_mul]
      congr 1
      omega
    · simp only [Array.toList_append, List.append_assoc]
      rw [← List.append_assoc, ← hlen]
      exact List.take_left
  have hnew : ∀ (o : Obj), OnlyS (fun k => v.ownBlock = some k) w (w.drew.alloc o) := fun o => ⟨rfl, rfl, rfl, by simp, fun k hk _ => Below.heap_alloc w.drew _ k hk⟩
  rcases hown.2 with ⟨rfl, rfl⟩ | ⟨g, cap, cur, rfl, hbg, hg, hnc, hcm, hcs, htake⟩
  · have hx0 : xs = [] := List.eq_nil_of_length_eq_zero (by simpa using hown.1)
    subst hx0
    have hr := run_append_nil (P := P) w t ty e i z ht hi hz ⟨x, 0, none⟩ 1 1 cs.toList hcl hnews (by omega) (by omega) (by omega)
    have hgr := grown 0 (by omega)
    simp only [Nat.zero_add, List.nil_append, Array.empty_append] at hgr ⊢
    exact ⟨_, _, hr, hgr, World.ownsRow_nil _ _ _ _, hnew _, fun k hk => .inr (by simp [Value.ownBlock] at hk; omega)⟩
  · by_cases hroom : n + 1 ≤ cap
    · have hfit : n * i.size + cs.toList.length ≤ cur.size := by rw [hcl, hcs, ← Nat.add_mul]; exact Nat.mul_le_mul_right _ hroom
      have hr := run_append_room (P := P) w t ty e i ht hi g n cap cur hg ⟨x, 0, none⟩ 1 1 cs.toList hcl hnews h1 hroom hfit
      have hsz2 : (cur.toList.take (n * i.size) ++ cs.toList ++ cur.toList.drop (n * i.size + cs.toList.length)).toArray.size = cap * i.size := by
        simp only [List.size_toArray, List.length_append, List.length_take, List.length_drop, Array.length_toList] at hfit ⊢
        omega
      refine ⟨_, _, hr, ⟨hlen, .inr ⟨g, cap, _, rfl, hbg, setRow_heap w g cur _ e _ hg, hroom, hcm, hsz2, ?_⟩⟩, ⟨hown.1, .inr ⟨g, cap, _, rfl, hbg, setRow_heap w g cur _ e _ hg, hnc, hcm, hsz2, ?_⟩⟩, ⟨rfl, rfl, rfl, by simp, fun k _ hk => setRow_other w g k _ fun e => hk (by simp [Value.ownBlock, e])⟩, near_refl _ _⟩
      · rw [htake, ← hlen]
        exact List.take_left
      · rw [htake, List.append_assoc, ← hown.1]
        exact List.take_left
    · have holds : ∀ j u, xs[j]? = some u → w.cell? ((⟨g, 0, none⟩ : Addr).add j) = some u := hown.cells (g := g) rfl
      have hr := run_append_grow (P := P) w t ty e i z ht hi hz ⟨g, 0, none⟩ n cap xs hown.1 holds ⟨x, 0, none⟩ 1 1 cs.toList hcl hnews (by omega) (by omega) (growslice_fits (by omega) hnb)
      exact ⟨_, _, hr, grown cap (by omega), ownRow_same hown fun k hk => Below.heap_alloc w.drew _ k (World.ownsRow.lt hown k hk).2, hnew _, fun k hk => .inr (by simp [Value.ownBlock] at hk; omega)⟩

/-- append(ws, op). -/
theorem add_op {W : World} {ws : Value} {n : Nat} {xs : List Value} (h : W.ownsRow 0 145 5 ws n xs) (hn : n ≤ 4095) {x : Nat} {cs : Array Value} (hx : Blk W x 145 cs) (hl : cs.size = 5) (h1 : ∀ u ∈ cs.toList, u.oneCell' = true) :
    ∃ v' w', (Builtin.append_ #[96, 96] 96 #[ws, .slice (some ⟨x, 0, none⟩) 1 1]).run Tryz.prog W = .ok v' w' ∧
      (w'.ownsRow 0 145 5 v' (n + 1) (xs ++ cs.toList) ∧ w'.ownsRow 0 145 5 ws n xs ∧ OnlyS (fun k => ws.ownBlock = some k) W w' ∧ Near W ws v') := by
  obtain ⟨i0, hi, hz0, hz1, hz2⟩ := info_parts info_op
  exact append_one W 96 96 145 i0 (.agg #[.int .i64 0, .string ⟨#[]⟩, .string ⟨#[]⟩, .int .i64 0, .slice none 0 0]) 5 72 Tryz.underlying96 hi hz0 hz1 hz2 rfl (by decide) ws n xs h x cs hx hl h1 (by omega) (by omega)

theorem row_one {w : World} {B : Nat} {v : Value} {l : List UInt8} (h : Row w B v l) : v.oneCell' = true := by
  obtain ⟨a, c, rfl⟩ := slice_of_row h
  rfl

/-- What is left when an operation was done and has been added. -/
theorem run_end {w2 w3 W : World} {d c : Nat} {s : St} {m1 m2 : Nat} {F1 F2 : Gf} {ws v v' : Value} {G : Go8} {op : AOp} (hd : Dk w2 d c s.burn m1 m2 F1 F2 ws G) (h0 : s.fuse ≠ 0) (hc : c + 1 ≤ 2000) (ho : FitO op) (hv : Row w2 0 v op.b)
    (hva : ∀ k, v.ownBlock = some k → ¬ foot F1 k ∧ ¬ foot F2 k) (hD : Done w2 d 3 m1 F1 (dC s.burn m1 m2 ws) (doA op (pr F1)) w3) (h4 : OnlyS (fun k => ws.ownBlock = some k) w3 W)
    (hrow : W.ownsRow 0 145 5 v' (G.length + 1) (cells8 G ++ (opC op v).toList)) (hnear : Near w3 ws v') : RunEnd w2 d (c + 1) (s.run op) m1 m2 F1 F2 ws G v (W.setCell ⟨d, 7, none⟩ v') := by
  obtain ⟨F1', r1, r2, r3, r4, r5⟩ := hD
  have hsn : s.burn.now = s.now := by unfold St.burn; split; · rfl
                                      split <;> rfl
  have hss : s.burn.sure = s.sure := by unfold St.burn; split; · rfl
                                        split <;> rfl
  have hso : s.burn.ops = s.ops := by unfold St.burn; split; · rfl
                                      split <;> rfl
  have hsr : s.burn.room = s.room := by unfold St.burn; split; · rfl
                                        split <;> rfl
  have hrun : s.run op = { s.burn with now := doA op s.now, ops := s.ops ++ [op] } := by unfold St.run; rw [if_neg h0]
  have hp1 : pr F1 = s.now := by rw [hd.p1, hsn]
  -- what do has left alone
  have nd : ∀ {k : Nat}, k < w2.heap.size → k ≠ d → k ≠ m1 → ¬ foot F1 k → w3.heap[k]? = w2.heap[k]? := fun {k} hk h1 h2 h3 => r4.block k hk (by rintro (h | h | h); exact h1 h; exact h2 h; exact h3 h)
  have hwsB : ∀ k, ws.ownBlock = some k → ∃ cur, w2.heap[k]? = some (.cells cur 145 (0, 0)) := fun k hk => ownRow_block hd.wops.row hk
  have hwsk : ∀ k, ws.ownBlock = some k → k ≠ d ∧ k ≠ m1 ∧ k ≠ m2 ∧ ¬ foot F1 k ∧ ¬ foot F2 k := fun k hk => by
    obtain ⟨cur, hcu⟩ := hwsB k hk
    refine ⟨fun e => ?_, fun e => ?_, fun e => ?_, fun hf => ?_, fun hf => ?_⟩
    · have hb := hd.blk; unfold Blk at hb; rw [← e, hcu] at hb; simp at hb
    · obtain ⟨es, clock, hm, _⟩ := hd.k1.map; rw [← e, hcu] at hm; cases hm
    · obtain ⟨es, clock, hm, _⟩ := hd.k2.map; rw [← e, hcu] at hm; cases hm
    · obtain ⟨p, hp, hf⟩ := hf
      obtain ⟨cur', hc'⟩ := (hd.k1.row p hp).block hf
      rw [hcu] at hc'; simp at hc'
    · obtain ⟨p, hp, hf⟩ := hf
      obtain ⟨cur', hc'⟩ := (hd.k2.row p hp).block hf
      rw [hcu] at hc'; simp at hc'
  -- from w2 to the end, for what is none of d, m1, F1, ws
  have keep : ∀ {k : Nat}, k < w2.heap.size → k ≠ d → k ≠ m1 → ¬ foot F1 k → ws.ownBlock ≠ some k → (W.setCell ⟨d, 7, none⟩ v').heap[k]? = w2.heap[k]? := fun {k} hk h1 h2 h3 h5 => by
    rw [heap_setCell_other W ⟨d, 7, none⟩ k v' h1, h4.block k (Nat.lt_of_lt_of_le hk r4.size) h5, nd hk h1 h2 h3]
  have hm2d : m2 ≠ d := hd.k2.ne_blk hd.blk
  have hk2 : Keep (W.setCell ⟨d, 7, none⟩ v') m2 F2 := by
    refine hd.k2.same (keep hd.k2.lt hm2d (Ne.symm hd.ne) (fun hf => ?_) fun e => (hwsk m2 e).2.2.1 rfl) fun k hf => keep (hd.k2.foot_lt hf) ?_ ?_ (fun h => hd.ap k h hf) fun e => (hwsk k e).2.2.2.2 hf
    · obtain ⟨p, hp, hf⟩ := hf
      exact hd.k2.ne (hd.k1.row p hp) hf
    · obtain ⟨p, hp, hf⟩ := hf
      exact fun e => row_ne_blk (hd.k2.row p hp) hd.blk (by decide) (by rw [hf, e])
    · obtain ⟨p, hp, hf⟩ := hf
      exact fun e => hd.k1.ne (hd.k2.row p hp) (by rw [hf, e])
  have hwsd3 : ¬ (ws.ownBlock = some d) := fun e => (hwsk d e).1 rfl
  have hb3 : Blk W d 98 ((dC s.burn m1 m2 ws).setIfInBounds (3 + 1) (.int .i64 (tot (doA op (pr F1)) : Int))) := r3.only h4 hwsd3
  have hf1ws : ∀ k, foot F1' k → ws.ownBlock ≠ some k := fun k hf e => by
    rcases r5 k hf with h | h
    · exact (hwsk k e).2.2.2.1 h
    · have := (World.ownsRow.lt hd.wops.row k e).2
      omega
  have hk1W : Keep W m1 F1' := r1.same (h4.block m1 r1.lt fun e => (hwsk m1 e).2.1 rfl) fun k hf => h4.block k (r1.foot_lt hf) (hf1ws k hf)
  have hk1 : Keep (W.setCell ⟨d, 7, none⟩ v') m1 F1' := hk1W.setBlk hb3 (by decide) 7 v'
  have hvd : ∀ k, v'.ownBlock = some k → k ≠ d := fun k hk e => by
    obtain ⟨cur, hcu⟩ := ownRow_block hrow hk
    unfold Blk at hb3
    rw [← e, hcu] at hb3
    simp at hb3
  have htext : ∀ (u : Value) (t : List UInt8), Row w2 0 u t → (∀ k, u.ownBlock = some k → ¬ foot F1 k) → Row (W.setCell ⟨d, 7, none⟩ v') 0 u t := fun u t hr hu => hr.same fun k hk => by
    refine keep (hr.lt hk).2 (fun e => row_ne_blk hr hd.blk (by decide) (by rw [hk, e])) (fun e => hd.k1.ne hr (by rw [hk, e])) (hu k hk) fun e => ?_
    obtain ⟨cur, hcu⟩ := hr.block hk
    obtain ⟨cur', hcu'⟩ := hwsB k e
    rw [hcu] at hcu'
    simp at hcu'
  refine ⟨⟨F1', v', G ++ [(op, v)], ?_, ?_⟩, ?_⟩
  · exact {
      blk := by
        have h := Blk.set hb3 7 v'
        rw [hrun]
        have e : dC { s.burn with now := doA op s.now, ops := s.ops ++ [op] } m1 m2 v' = ((dC s.burn m1 m2 ws).setIfInBounds (3 + 1) (.int .i64 (tot (doA op (pr F1)) : Int))).setIfInBounds 7 v' := by rw [hp1]; rfl
        rw [e]
        exact h
      k1 := hk1
      p1 := by rw [r2, hrun, hp1]
      k2 := hk2
      p2 := by rw [hrun]; exact hd.p2
      wops := ⟨by
        rw [cells8_snoc, List.length_append]
        exact ownRow_same hrow fun k hk => heap_setCell_other W ⟨d, 7, none⟩ k v' (hvd k hk), fun p hp => by
        rcases List.mem_append.1 hp with hp | hp
        · exact htext _ _ (hd.wops.text p hp) fun k hk => (hd.apo p hp k hk).1
        · obtain rfl := List.mem_singleton.1 hp
          exact htext _ _ hv fun k hk => (hva k hk).1⟩
      pw := by rw [hrun]; show names8 (G ++ [(op, v)]) = s.ops ++ [op]; rw [names8, List.map_append]; show names8 G ++ _ = _; rw [hd.pw, hso]; rfl
      ok := by
        rw [hrun]
        refine ⟨?_, ?_, ?_, ?_, ?_⟩
        · show doA op s.now = doAllA (s.ops ++ [op]) s.burn.sure
          rw [doAllA_snoc, ← hso, ← hd.ok.now, hsn]
        · exact hd.ok.rise
        · exact hd.ok.fit
        · intro o h
          rcases List.mem_append.1 h with h | h
          · exact hd.ok.fitO o (by rw [hso]; exact h)
          · obtain rfl := List.mem_singleton.1 h
            exact ho
        · have := hd.ok.few
          rw [hso] at this
          show s.burn.sure.length + (s.ops ++ [op]).length ≤ c + 1
          rw [List.length_append]
          simp
          omega
      small := hc
      ne := hd.ne
      ap := fun k hf h2 => by
        rcases r5 k hf with h | h
        · exact hd.ap k h h2
        · have := hd.k2.foot_lt h2
          omega
      apo := fun p hp k hk => by
        have hold : ∀ (u : Value) (t : List UInt8), Row w2 0 u t → u.ownBlock = some k → ¬ foot F1 k → ¬ foot F1' k := fun u t hr hu hn hf => by
          rcases r5 k hf with h | h
          · exact hn h
          · have := (hr.lt hu).2
            omega
        rcases List.mem_append.1 hp with hp | hp
        · exact ⟨hold _ _ (hd.wops.text p hp) hk (hd.apo p hp k hk).1, (hd.apo p hp k hk).2⟩
        · obtain rfl := List.mem_singleton.1 hp
          exact ⟨hold _ _ hv hk (hva k hk).1, (hva k hk).2⟩
      fuse := by rw [hrun]; exact hd.fuse }
  · intro k hk
    rcases hk with h | h | h | h | h | h | ⟨p, hp, h⟩
    · exact .inl (.inl h)
    · exact .inl (.inr (.inl h))
    · exact .inl (.inr (.inr (.inl h)))
    · rcases r5 k h with h | h
      · exact .inl (.inr (.inr (.inr (.inl h))))
      · exact .inr (.inr h)
    · exact .inl (.inr (.inr (.inr (.inr (.inl h)))))
    · rcases hnear k h with h | h
      · exact .inl (.inr (.inr (.inr (.inr (.inr (.inl h))))))
      · exact .inr (.inr (Nat.le_trans r4.size h))
    · rcases List.mem_append.1 hp with hp | hp
      · exact .inl (.inr (.inr (.inr (.inr (.inr (.inr ⟨p, hp, h⟩))))))
      · obtain rfl := List.mem_singleton.1 hp
        exact .inr (.inl h)
  · refine ((r4.mono fun k _ h => ?_).then h4 fun k _ h => .inr (.inr (.inr (.inr (.inr (.inl h)))))).then (only_set W d 7 v') fun k _ h => .inl h
    rcases h with h | h | h
    · exact .inl h
    · exact .inr (.inl h)
    · exact .inr (.inr (.inr (.inl h)))

theorem RunEnd.ahead {w W w' : World} {d c : Nat} {s : St} {m1 m2 : Nat} {F1 F2 : Gf} {ws : Value} {G : Go8} {v : Value} (h : RunEnd W d c s m1 m2 F1 F2 ws G v w') (ho : OnlyS (tk d m1 m2 F1 F2 ws G) w W) : RunEnd w d c s m1 m2 F1 F2 ws G v w' := by
  obtain ⟨⟨F1', ws', G', h1, h2⟩, h3⟩ := h
  refine ⟨⟨F1', ws', G', h1, fun k hk => ?_⟩, ho.then h3 fun _ _ h => h⟩
  rcases h2 k hk with h | h | h
  · exact .inl h
  · exact .inr (.inl h)
  · exact .inr (.inr (Nat.le_trans ho.size h))

/-- A block of the call's own, and what it holds, behind a burn. -/
theorem only_d_blk {w w' : World} {d g : Nat} {t : TypeId} {cs : Array Value} (h : Blk w g t cs) (ho : OnlyS (fun k => k = d) w w') (hne : g ≠ d) : Blk w' g t cs := h.only ho hne

theorem build_op (W : World) (x0 x1 x2 x3 x4 : Value) : (Instr.buildSlice 96 1 #[(0, .agg #[x0, x1, x2, x3, x4])]).run Tryz.prog W = .ok (.slice (some ⟨W.heap.size, 0, none⟩) 1 1) (W.alloc (.cells #[x0, x1, x2, x3, x4] 145)) := by
  have hz : (zeroValue 145).run Tryz.prog W = .ok (.agg #[.int .i64 0, .string ⟨#[]⟩, .string ⟨#[]⟩, .int .i64 0, .slice none 0 0]) W := by kernel_rfl
  have hr : Array.range 5 = #[0, 1, 2, 3, 4] := by decide
  simp [Instr.buildSlice, run_underlying Tryz.underlying96, Result.andThen, hz, Instr.fill, newRow, Value.cells, hr]

set_option maxHeartbeats 2000000 in
theorem run_any {w : World} {d c : Nat} {s : St} {m1 m2 : Nat} {F1 F2 : Gf} {ws v : Value} {G : Go8} {op : AOp} (hd : Dk w d c s m1 m2 F1 F2 ws G) (hc : c + 1 ≤ 2000) (ho : FitO op) (hv : Row w 0 v op.b)
    (hva : ∀ k, v.ownBlock = some k → ¬ foot F1 k ∧ ¬ foot F2 k) :
    Calls Tryz.prog 156 #[dp d, .agg (opC op v)] w fun e w' => e = .returned (.int .i64 (s.said : Int)) ∧ RunEnd w d (c + 1) (s.run op) m1 m2 F1 F2 ws G v w' := by
  have hb1 : Below w.heap.size w (w.alloc (.cells (opC op v) 145)) := (Below.refl _ _).alloc (Nat.le_refl _) _
  have hd1 : Dk (w.alloc (.cells (opC op v) 145)) d c s m1 m2 F1 F2 ws G := hd.same fun k hk => hb1.block k (hd.lt hk)
  have HBurn := Lib.hid (burn_any hd1)
  have hgd : w.heap.size ≠ d := fun e => by have := hd.blk.lt; omega
  have hbox : Blk (w.alloc (.cells (opC op v) 145)) w.heap.size 145 (opC op v) := Blk.new w _ _
  have HBox := Lib.hid hbox
  have HB1 := Lib.hid hb1
  have HD := Lib.hid hd
  have HV := Lib.hid hv
  have HVa := Lib.hid hva
  have HO := Lib.hid ho
  have HOne := Lib.hid (row_one hv)
  clear hb1 hd1 hbox hd hv hva ho
  obtain ⟨k, n, q, a, b⟩ := op
  obtain ⟨N, hN⟩ : ∃ N, nm n = .string N := ⟨_, rfl⟩
  obtain ⟨M, hM⟩ : ∃ M, nm q = .string M := ⟨_, rfl⟩
  obtain ⟨cs, hcs⟩ : ∃ cs, cs = opC ⟨k, n, q, a, b⟩ v := ⟨_, rfl⟩
  have hcs2 : cs = #[.int .i64 (k : Int), .string N, .string M, .int .i64 (a : Int), v] := by rw [hcs, opC]; simp only; rw [hN, hM]
  rw [← hcs] at HBurn HBox HB1 ⊢
  have HCs := Lib.hid hcs
  have HCs2 := Lib.hid hcs2
  clear hcs hcs2 hN hM
  by_cases h0 : s.fuse = 0
  · have hr : s.run ⟨k, n, q, a, b⟩ = s.burn := by unfold St.run; rw [if_pos h0]
    have hs : s.said = 6 := by unfold St.said; rw [if_pos h0]
    have hb : decide (s.fuse ≠ 0) = false := by simp [h0]
    rw [hb] at HBurn
    rw [hr, hs]
    clear hr hs hb h0
    go_enter Tryz.func156, Tryz.ntmps156
    go_wp2_with fail
    refine HBurn.out.mono ?_
    rintro e w2 ⟨rfl, hd2, ho2⟩
    have HEnd : Hid (RunEnd w d (c + 1) s.burn m1 m2 F1 F2 ws G v w2) := ⟨⟨F1, ws, G, { hd2 with ok := { hd2.ok with few := Nat.le_succ_of_le hd2.ok.few }, small := hc }, fun k hk => .inl hk⟩, (OnlyS.of_below (S := tk d m1 m2 F1 F2 ws G) HB1.out fun k hk _ => hk).then ho2 fun k _ e => .inl e⟩
    clear hd2 ho2
    go_wp2
    go_ret
    exact ⟨rfl, HEnd.out⟩
  · have hs : s.said = 0 := by unfold St.said; rw [if_neg h0]
    have hb : decide (s.fuse ≠ 0) = true := by simp [h0]
    rw [hb] at HBurn
    rw [hs]
    have H0 := Lib.hid h0
    clear h0 hs hb
    go_enter Tryz.func156, Tryz.ntmps156
    go_wp2_with fail
    refine HBurn.out.mono ?_
    rintro e w2 ⟨rfl, hd2, ho2⟩
    have hbox2 := only_d_blk HBox.out ho2 hgd
    have HBox2 := Lib.hid hbox2
    have HD2 := Lib.hid hd2
    have HO2 := Lib.hid ho2
    clear hbox2 hd2 ho2 HBurn
    go_wp2
    refine region_tail 4 (by kernel_rfl) (by kernel_rfl) (Sames w2) (sames_drew w2) ?_
    intro W hW
    have hbw := hW.blk HBox2.out
    rw [HCs2.out] at hbw
    have d0 : W.cell? ⟨w.heap.size, 0, none⟩ = some (.int .i64 (k : Int)) := by rw [Blk.cell hbw]; rfl
    have d1 : W.cell? ⟨w.heap.size, 1, none⟩ = some (.string N) := by rw [Blk.cell hbw]; rfl
    have d2 : W.cell? ⟨w.heap.size, 2, none⟩ = some (.string M) := by rw [Blk.cell hbw]; rfl
    have d3 : W.cell? ⟨w.heap.size, 3, none⟩ = some (.int .i64 (a : Int)) := by rw [Blk.cell hbw]; rfl
    have d4 : W.cell? ⟨w.heap.size, 4, none⟩ = some v := by rw [Blk.cell hbw]; rfl
    have HW := Lib.hid hW
    clear hW hbw
    simp only [List.take_succ_cons, List.take_zero, List.drop_succ_cons, List.drop_zero]
    repeat (first | go_big_quiet_skip | (go_big_quiet_want; go_big_quiet_op; go_big_quiet_on))
    refine wpQuiet_nil ?_
    have hvW : Row W 0 v b := HW.out.row ((HV.out.below HB1.out).same fun j hj => HO2.out.block j (Nat.lt_of_lt_of_le (HV.out.lt hj).2 HB1.out.size) fun e => row_ne_blk HV.out HD.out.blk (by decide) (by rw [hj, e]))
    have hdW : Dk W d c s.burn m1 m2 F1 F2 ws G := HD2.out.same fun k _ => by rw [HW.out.heap]
    have hdo := do_any (o := 3) hdW.blk rfl (by rw [hdW.p1]; rfl) hdW.k1 (by rw [hdW.p1]; exact hdW.ok.fitN) (by
      have h := hdW.ok.fewN
      rw [← hdW.p1, pr_length] at h
      omega) HO.out hvW (fun j hf e => (HVa.out j e).1 hf)
    rw [← HCs.out, HCs2.out] at hdo
    have HDo := Lib.hid hdo
    have HDW := Lib.hid hdW
    have HVW := Lib.hid hvW
    clear hvW hdW hdo
    go_wp2_with fail
    refine HDo.out.mono ?_
    rintro e w3 ⟨rfl, hDone⟩
    have HDone := Lib.hid hDone
    clear hDone HDo d0 d1 d2 d3 d4
    go_wp2
    obtain ⟨hbx3, hws3, hb73⟩ : Blk w3 w.heap.size 145 cs ∧ w3.ownsRow 0 145 5 ws G.length (cells8 G) ∧ w3.cell? ⟨d, 7, none⟩ = some ws := by
      obtain ⟨F1', r1, r2, r3, r4, r5⟩ := HDone.out
      refine ⟨?_, ((HDW.out.wops).kept HDW.out.blk HDW.out.k1 (fun p hp k hf e => (HDW.out.apo p hp k e).1 hf) r4).row, ?_⟩
      · have hb := HW.out.blk HBox2.out
        refine hb.only r4 ?_
        rintro (h | h | h)
        · exact hgd h
        · have := HD.out.k1.lt
          omega
        · have := HD.out.k1.foot_lt h
          omega
      · rw [Blk.cell r3]
        rfl
    have hwsg : ws.ownBlock ≠ some w.heap.size := fun e => by
      have := (World.ownsRow.lt HD.out.wops.row _ e).2
      omega
    have hwsd : ws.ownBlock ≠ some d := fun e => by
      obtain ⟨cur, hcu⟩ := ownRow_block HD.out.wops.row e
      have hb := HD.out.blk
      unfold Blk at hb
      rw [hcu] at hb
      simp at hb
    have hd3 : d < w3.heap.size := World.block_lt_of_cell? w3 ⟨d, 7, none⟩ hb73
    have hG : ∀ W W' : World, (OnlyS (fun k => ws.ownBlock = some k) w3 W ∧ W.ownsRow 0 145 5 ws G.length (cells8 G)) → Below W.heap.size W W' → (OnlyS (fun k => ws.ownBlock = some k) w3 W' ∧ W'.ownsRow 0 145 5 ws G.length (cells8 G)) := fun W W' hW hb =>
      ⟨hW.1.then (OnlyS.of_below (S := fun _ => False) hb fun k hk _ => hk) (fun _ _ h => h.elim), ownRow_same hW.2 fun k hk => hb.block k (World.ownsRow.lt hW.2 k hk).2⟩
    have HBx3 := Lib.hid hbx3
    have HB73 := Lib.hid hb73
    have HWs3 := Lib.hid hws3
    have hcs5 : cs.size = 5 := by rw [HCs2.out]; rfl
    have hone : ∀ u ∈ cs.toList, u.oneCell' = true := by rw [HCs.out]; exact one_op _ _ HOne.out
    have hGl : G.length ≤ 2000 := by
      have h := HDW.out.ok.few
      have e : G.length = s.burn.ops.length := by rw [← HDW.out.pw]; simp [names8]
      have := HD.out.small
      omega
    refine region_tail_by 10 _ [(13, .is (dp d)), (14, .is (dp d)), (15, .is (dp d)), (16, .is (.pointer (some ⟨d, 7, none⟩))), (17, .is ws), (18, .is (.agg cs)), (19, .sat (fun u W => ∃ g, u = .slice (some ⟨g, 0, none⟩) 1 1 ∧ Blk W g 145 cs) (fun u W W' ⟨g, h1, h2⟩ hb => ⟨g, h1, h2.keep hb⟩)), (20, .sat (fun u W => W.ownsRow 0 145 5 u (G.length + 1) (cells8 G ++ cs.toList) ∧ Near w3 ws u) (fun u W W' ⟨h1, h2⟩ hb => ⟨ownRow_same h1 fun k hk => hb.block k (World.ownsRow.lt h1 k hk).2, h2⟩)), (21, .is (dp d)), (22, .is (.pointer (some ⟨d, 7, none⟩)))] [20, 22]
      (fun W => OnlyS (fun k => ws.ownBlock = some k) w3 W ∧ W.ownsRow 0 145 5 ws G.length (cells8 G)) (by kernel_rfl) (by kernel_rfl) (by kernel_rfl) (by kernel_rfl) (by kernel_rfl) rfl rfl rfl rfl (by kernel_rfl) (hG _ _ ⟨OnlyS.refl _ _, HWs3.out⟩ (Below.refl _ _).drew) ?_ ?_
    · refine ⟨?c0, ?c1, ?c2, ?c3, ?c4, ?c5, ?c6, ?c7, ?c8, ?c9, trivial⟩
      case c0 => exact ask_copy (guard_none rfl) (.tmp 0) (.inl rfl) (by intro k hk; cases hk; rfl)
      case c1 => exact ask_copy (guard_none rfl) (.tmp 0) (.inl rfl) (by intro k hk; cases hk; rfl)
      case c2 => exact ask_exec (guard_none rfl) (dp d) rfl rfl (by intro k hk; cases hk; rfl) (fun W hW => by kernel_rfl)
      case c3 => exact ask_field (guard_none rfl) _ (.tmp 15) 5 (dp d) (.pointer (some ⟨d, 7, none⟩)) rfl rfl (by intro k hk; cases hk; rfl) (fun W => by kernel_rfl)
      case c4 => exact ask_load (guard_none rfl) _ (.tmp 16) (.pointer (some ⟨d, 7, none⟩)) ws rfl rfl (by intro k hk; cases hk; rfl) (fun W hW => load_ops W _ _ (by rw [World.cell?_of_block (w := w3) (hW.1.block d hd3 hwsd)]; exact HB73.out))
      case c5 => exact ask_load (guard_none rfl) _ (.tmp 3) (.pointer (some ⟨w.heap.size, 0, none⟩)) (.agg cs) rfl rfl (by intro k hk; cases hk; rfl) (fun W hW => (HBx3.out.only hW.1 hwsg).loads _ _ Tryz.underlying145 rfl (by rw [hcs5]; kernel_rfl))
      case c6 => exact ask_grow hG (guard_none rfl) (fun x W hW hk => by
        have e18 : x 18 = .agg cs := hk 18 rfl
        refine gives_value (v := .slice (some ⟨W.heap.size, 0, none⟩) 1 1) (w' := W.alloc (.cells cs 145)) ?_ ⟨(Below.refl _ _).alloc (Nat.le_refl _) _, fun k hk => by cases hk; exact ⟨_, rfl, Blk.new W _ _⟩⟩
        have hr := build_op W (.int .i64 (k : Int)) (.string N) (.string M) (.int .i64 (a : Int)) v
        rw [← HCs2.out] at hr
        simp [execOp, evalBy, e18, hr, Result.andThen])
      case c7 => exact ask_write (guard_none rfl) (by kernel_rfl) (fun x W hW hk => by
        have e17 : x 17 = ws := hk 17 rfl
        obtain ⟨g, e19, hg⟩ : ∃ g, x 19 = .slice (some ⟨g, 0, none⟩) 1 1 ∧ Blk W g 145 cs := hk 19 rfl
        obtain ⟨v', w', hr, q1, q2, q3, q4⟩ := add_op hW.2 (by omega) hg hcs5 hone
        refine gives_value (v := v') (w' := w') ?_ ⟨⟨hW.1.then q3 fun _ _ h => h, q2⟩, fun k hk => by
          cases hk
          exact ⟨q1, fun j hj => by
            rcases q4 j hj with h | h
            · exact .inl h
            · exact .inr (Nat.le_trans hW.1.size h)⟩⟩
        simp [execOp, evalBy, resolve, invoke, builtin, e17, e19, hr, Result.andThen])
      case c8 => exact ask_exec (guard_none rfl) (dp d) rfl rfl (by intro k hk; cases hk; rfl) (fun W hW => by kernel_rfl)
      case c9 => exact ask_field (guard_none rfl) _ (.tmp 21) 5 (dp d) (.pointer (some ⟨d, 7, none⟩)) rfl rfl (by intro k hk; cases hk; rfl) (fun W => by kernel_rfl)
    · intro a' W7 hW7 hd7 hs7 hf7
      obtain ⟨t20, hnear⟩ : W7.ownsRow 0 145 5 (a'.tmps.getD 20 undef) (G.length + 1) (cells8 G ++ cs.toList) ∧ Near w3 ws (a'.tmps.getD 20 undef) := hf7 20 rfl
      have t22 : a'.tmps.getD 22 undef = .pointer (some ⟨d, 7, none⟩) := hf7 22 rfl
      obtain ⟨us, hus, ha'⟩ := act_open 23 a' hs7 hd7
      rw [← hus] at t20 hnear t22
      have el : ((List.range 23).map us).toArray = #[us 0, us 1, us 2, us 3, us 4, us 5, us 6, us 7, us 8, us 9, us 10, us 11, us 12, us 13, us 14, us 15, us 16, us 17, us 18, us 19, us 20, us 21, us 22] := rfl
      rw [el] at ha'
      subst ha'
      rw [t22]
      obtain ⟨va, vc, hv'⟩ : ∃ va vc, us 20 = .slice va (G.length + 1) vc := by
        rcases t20.2 with ⟨_, h0⟩ | ⟨g, cap, cur, h, _⟩
        · omega
        · exact ⟨_, _, h⟩
      have HEnd := Lib.hid (((run_end HDW.out H0.out hc HO.out HVW.out HVa.out HDone.out hW7.1 (by rw [← HCs.out]; exact t20) hnear)).ahead (((OnlyS.of_below (S := tk d m1 m2 F1 F2 ws G) HB1.out fun k hk _ => hk).then HO2.out fun k _ e => .inl e).then (HW.out.only (fun _ => False)) fun _ _ h => h.elim))
      rw [hv'] at HEnd ⊢
      have c7 : W7.cell? ⟨d, 7, none⟩ = some ws := by rw [World.cell?_of_block (w := w3) (hW7.1.block d hd3 hwsd)]; exact HB73.out
      have f7 : W7.frozen? ⟨d, 7, none⟩ = false := by
        obtain ⟨F1', r1, r2, r3, r4, r5⟩ := HDone.out
        exact Blk.frozen (r3.only hW7.1 hwsd) 7
      clear hus t20 t22 hnear el hf7 hs7 hd7 hW7 hv'
      go_wp2
      go_ret
      exact ⟨rfl, HEnd.out⟩
end Go.Proofs.YthaggdkfaglgaaaGreatDoor

