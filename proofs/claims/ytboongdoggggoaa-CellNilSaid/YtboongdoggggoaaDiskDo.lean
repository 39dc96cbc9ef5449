/- do: an operation done to files; doAll. -/
import Derived.Test.YtboongdoggggoaaDiskWrite
namespace Go.Proofs.Ytboongdoggggoaa
set_option maxRecDepth 20000
open Go.RowKit Go.Maps DiskMath

/-- An operation's cells. -/
def opC (o : AOp) (v : Value) : Array Value := #[.int .i64 (o.k : Int), nm o.n, nm o.q, .int .i64 (o.a : Int), v]

/-- What an operation done to files leaves. -/
def Done (w : World) (d o m : Nat) (F : Gf) (cs : Array Value) (L : Fs) (w' : World) : Prop :=
  ∃ F', Keep w' m F' ∧ pr F' = L ∧ Blk w' d 123 (cs.setIfInBounds (o + 1) (.int .i64 (tot L : Int))) ∧ OnlyS (fun k => k = d ∨ k = m ∨ foot F k) w w' ∧ ∀ k, foot F' k → foot F k ∨ w.heap.size ≤ k

theorem Row.take {w : World} {B : Nat} {A : Option Addr} {n C : Nat} {t : List UInt8} (h : Row w B (.slice A n C) t) (q : Nat) (hq : q ≤ n) : Row w B (.slice A q C) (t.take q) := by
  obtain ⟨a', c', e⟩ := slice_of_row h
  simp at e
  obtain ⟨rfl, e2, rfl⟩ := e
  have el : (t.take q).length = q := by rw [List.length_take]; omega
  rcases h.2 with ⟨e, h0⟩ | ⟨g, cap, cur, e, hB, hg, hn, hm, hs, ht⟩
  · simp at e
    obtain ⟨rfl, rfl, rfl⟩ := e
    obtain rfl : q = 0 := by omega
    exact ⟨by simp, .inl ⟨rfl, by simp⟩⟩
  · simp at e
    obtain ⟨rfl, e3, rfl⟩ := e
    refine ⟨by simp, .inr ⟨g, C, cur, by rw [el], hB, hg, by rw [el]; omega, hm, hs, ?_⟩⟩
    rw [el, List.map_take, ← ht, List.take_take]
    congr 1
    omega

theorem foot_put {F : Gf} {n : Nm} {v : Value} {t : List UInt8} {k : Nat} (h : foot (putA n (v, t) F) k) : v.ownBlock = some k ∨ foot F k := by
  obtain ⟨p, hp, h1⟩ := h
  rcases mem_put.1 hp with rfl | ⟨hp, _⟩
  · exact .inl h1
  · exact .inr ⟨p, hp, h1⟩

theorem foot_del {F : Gf} {n : Nm} {k : Nat} (h : foot (delA n F) k) : foot F k := by
  obtain ⟨p, hp, h1⟩ := h
  exact ⟨p, (mem_del.1 hp).1, h1⟩

theorem set_get_ne (cs : Array Value) (o : Nat) (x : Value) : (cs.setIfInBounds (o + 1) x)[o]? = cs[o]? := Array.getElem?_setIfInBounds_ne (by omega)
theorem set_get_same (cs : Array Value) (o : Nat) (x y : Value) (h : cs[o + 1]? = some y) : (cs.setIfInBounds (o + 1) x)[o + 1]? = some x := by
  have := (Array.getElem?_eq_some_iff.1 h).1
  rw [Array.getElem?_setIfInBounds_self_of_lt this]
theorem set_twice (cs : Array Value) (o : Nat) (x y : Value) : (cs.setIfInBounds o x).setIfInBounds o y = cs.setIfInBounds o y := by
  apply Array.ext_getElem?
  intro i
  by_cases h : o = i
  · subst h
    by_cases hl : o < cs.size
    · rw [Array.getElem?_setIfInBounds_self_of_lt (by simpa using hl), Array.getElem?_setIfInBounds_self_of_lt hl]
    · rw [Array.getElem?_eq_none (by simpa using hl), Array.getElem?_eq_none (by simpa using hl)]
  · rw [Array.getElem?_setIfInBounds_ne h, Array.getElem?_setIfInBounds_ne h, Array.getElem?_setIfInBounds_ne h]

theorem pr_some {F : Gf} {n : Nm} {x : Value × List UInt8} (h : getA n F = some x) : getA n (pr F) = some x.2 := by rw [pr_get, h]; rfl
theorem pr_none {F : Gf} {n : Nm} (h : getA n F = none) : getA n (pr F) = none := by rw [pr_get, h]; rfl

set_option maxHeartbeats 1000000 in
theorem do_write {w : World} {d o m : Nat} {F : Gf} {n q : Nm} {a : Nat} {ab : Option Addr} {lb cb : Nat} {b : List UInt8} {cs : Array Value} (hb : Blk w d 123 cs) (h0 : cs[o]? = some (.map (some m))) (h1 : cs[o + 1]? = some (.int .i64 (tot (pr F) : Int)))
    (hk : Keep w m F) (hf : Fit (pr F)) (hl : F.length ≤ 4095) (ho : FitO ⟨0, n, q, a, b⟩) (hbb : Bys w (.slice ab lb cb) b) (hlb : b.length = lb) (hlc : lb ≤ cb) (hap : ∀ k, foot F k → (Value.slice ab lb cb).ownBlock ≠ some k) :
    Calls Try.prog 104 #[fp d o, .agg #[.int .i64 0, nm n, nm q, .int .i64 (a : Int), .slice ab lb cb]] w fun e w' => e = .returned (.tuple #[]) ∧ Done w d o m F cs (doA ⟨0, n, q, a, b⟩ (pr F)) w' := by
  obtain ⟨_, hn, hq, _, ha, hb4, _, _⟩ := ho
  simp only at hn ha hb4
  have hb0 : Below w.heap.size w (w.alloc (.cells #[.int .i64 0, nm n, nm q, .int .i64 (a : Int), .slice ab lb cb] 155)) := (Below.refl _ _).alloc (Nat.le_refl _) _
  have HW := Lib.hid (fwrite_any (hb.keep hb0) h0 h1 (hk.below hb0) hn hf hl (ha trivial) (hbb.below (Nat.le_refl _) hb0) hlb hlc (by rw [← hlb]; exact hb4) hap)
  have HK := Lib.hid hk
  have HB0 := Lib.hid hb0
  obtain ⟨N, hN⟩ : ∃ N, N = nm n := ⟨_, rfl⟩
  obtain ⟨M, hM⟩ : ∃ M, M = nm q := ⟨_, rfl⟩
  rw [← hN, ← hM] at HW HB0 ⊢
  clear hb h0 h1 hk hf hl hbb hlb hlc hap hn hq ha hb4 hb0 hN hM
  go_enter Try.func104, Try.ntmps104
  go_wp2_with fail
  refine HW.out.mono ?_
  rintro e w' ⟨rfl, v', r1, r2, r3, r4⟩
  have HF : Hid (Done w d o m F cs (doA ⟨0, n, q, a, b⟩ (pr F)) w') := ⟨_, r1, by rw [pr_put]; rfl, r3, ((OnlyS.of_below (S := fun k => k = d ∨ k = m ∨ foot F k) HB0.out fun k hk _ => hk).then r4 fun k _ h => by
    rcases h with h | h | h
    · exact .inl h
    · exact .inr (.inl h)
    · exact .inr (.inr (vOf_foot h))), fun k hk => by
    rcases foot_put hk with h | h
    · rcases r2 k h with h | h
      · exact .inl (vOf_foot h)
      · exact .inr (Nat.le_trans HB0.out.size h)
    · exact .inl h⟩
  clear r1 r2 r3 r4 HW
  go_wp2
  exact bodyPost_ret (results_none rfl _ _ _) rfl ⟨rfl, HF.out⟩

set_option maxHeartbeats 1000000 in
theorem do_none {w : World} {d o m k : Nat} {F : Gf} {n q : Nm} {a : Nat} {v : Value} {b : List UInt8} {cs : Array Value} (hb : Blk w d 123 cs) (h0 : cs[o]? = some (.map (some m))) (h1 : cs[o + 1]? = some (.int .i64 (tot (pr F) : Int)))
    (hk : Keep w m F) (hn : n.length ≤ 16) (hk0 : 0 < k) (hg : getA n F = none) :
    Calls Try.prog 104 #[fp d o, .agg #[.int .i64 (k : Int), nm n, nm q, .int .i64 (a : Int), v]] w fun e w' => e = .returned (.tuple #[]) ∧ Done w d o m F cs (doA ⟨k, n, q, a, b⟩ (pr F)) w' := by
  have hb0 : Below w.heap.size w (w.alloc (.cells #[.int .i64 (k : Int), nm n, nm q, .int .i64 (a : Int), v] 155)) := (Below.refl _ _).alloc (Nat.le_refl _) _
  have HW := Lib.hid (has_any (d := d) (o := o) (by rw [Blk.cell (hb.keep hb0)]; exact h0) (hk.below hb0) (n := n) (by omega))
  rw [hg] at HW
  have hdo : doA ⟨k, n, q, a, b⟩ (pr F) = pr F := by
    unfold doA
    simp only
    rw [if_neg (by omega), pr_none hg]
  have HF : Hid (Done w d o m F cs (doA ⟨k, n, q, a, b⟩ (pr F)) (w.alloc (.cells #[.int .i64 (k : Int), nm n, nm q, .int .i64 (a : Int), v] 155))) := by
    rw [hdo]
    refine ⟨F, hk.below hb0, rfl, ?_, OnlyS.of_below hb0 fun k hk _ => hk, fun k hk => .inl hk⟩
    have e : cs.setIfInBounds (o + 1) (.int .i64 (tot (pr F) : Int)) = cs := by
      apply Array.ext_getElem?
      intro i
      by_cases h : o + 1 = i
      · subst h
        rw [set_get_same cs o _ _ h1, h1]
      · rw [Array.getElem?_setIfInBounds_ne h]
    rw [e]
    exact hb.keep hb0
  obtain ⟨N, hN⟩ : ∃ N, N = nm n := ⟨_, rfl⟩
  obtain ⟨M, hM⟩ : ∃ M, M = nm q := ⟨_, rfl⟩
  rw [← hN, ← hM] at HW HF ⊢
  have i1 : ((k : Int) == 0) = false := by simp; omega
  clear hb h0 h1 hk hg hn hb0 hN hM hdo hk0
  go_enter Try.func104, Try.ntmps104
  go_wp2_with fail
  refine HW.out.mono ?_
  rintro e w' ⟨rfl, rfl⟩
  go_wp2
  exact bodyPost_ret (results_none rfl _ _ _) rfl ⟨rfl, HF.out⟩

theorem own_len (A : Option Addr) (q L C : Nat) : (Value.slice A q C).ownBlock = (Value.slice A L C).ownBlock := by cases A <;> rfl

/-- What is known where there is such a file, and its text has been looked up. -/
structure Found (w : World) (d o m : Nat) (F : Gf) (cs : Array Value) (n : Nm) (t : List UInt8) (g : Nat) (os : Array Value) (W : World) : Prop where
  blk : Blk W d 123 cs
  keep : Keep W m F
  opb : Blk W g 155 os
  only : Below w.heap.size w W
  get : getA n (pr F) = some t
  new : w.heap.size ≤ g

theorem Found.sames {w W W' : World} {d o m : Nat} {F : Gf} {cs : Array Value} {n : Nm} {t : List UInt8} {g : Nat} {os : Array Value} (h : Found w d o m F cs n t g os W) (hs : Sames W W') : Found w d o m F cs n t g os W' :=
  ⟨hs.blk h.blk, hs.keep h.keep, hs.blk h.opb, h.only.trans (hs.below.mono h.only.size), h.get, h.new⟩

/-- The text is cut. -/
theorem Found.cut {w W : World} {d o m : Nat} {F : Gf} {cs : Array Value} {n q' : Nm} {t : List UInt8} {g : Nat} {os : Array Value} {A : Option Addr} {L C a q : Nat} (h : Found w d o m F cs n t g os W) (hv : vOf n F = .slice A L C) (hq : q = min a L) (h0 : cs[o]? = some (.map (some m)))
    (h1 : cs[o + 1]? = some (.int .i64 (tot (pr F) : Int))) (hn : n.length ≤ 16) (hf : Fit (pr F)) (hl : F.length ≤ 4095) :
    Calls Try.prog 125 #[fp d o, nm n, .slice A q C] W fun e w' => e = .returned (.tuple #[]) ∧ Done w d o m F cs (doA ⟨1, n, q', a, []⟩ (pr F)) w' := by
  have hr : Row W 0 (.slice A L C) t := by
    have h' := vOf_row h.keep n
    rw [hv, h.get] at h'
    exact h'
  have hL : L = t.length := by
    obtain ⟨a', c', e⟩ := slice_of_row hr
    simp at e
    exact e.2.1
  have hr2 := hr.take q (by omega)
  have e : (t : List UInt8).take a = t.take q := by
    rw [hq, hL]
    rcases Nat.le_total a t.length with h | h
    · rw [Nat.min_eq_left h]
    · rw [Nat.min_eq_right h, List.take_of_length_le h, List.take_length]
  have ht : t.length ≤ 8388608 := (hf _ (getA_mem h.get)).2
  refine (set_any h.blk h0 h1 (h.keep.but _) (by omega) hf (by omega) h.keep.long hr2 (by rw [List.length_take]; omega) fun p hp hne k hk => vOf_apart h.keep n p hp hne k (by rw [hv, ← own_len A q L C]; exact hk)).mono ?_
  rintro e' w' ⟨rfl, r1, r2, r3⟩
  have ed : doA ⟨1, n, q', a, []⟩ (pr F) = putA n (t.take q) (pr F) := by
    rw [doA_cut h.get, e]
  refine ⟨rfl, _, r1, by rw [pr_put, ed], by rw [ed, ← pr_put]; exact r2, (OnlyS.of_below (S := fun k => k = d ∨ k = m ∨ foot F k) h.only fun k hk _ => hk).then r3 fun k _ h => ?_, fun k hk => ?_⟩
  · rcases h with h | h
    · exact .inl h
    · exact .inr (.inl h)
  · rcases foot_put hk with h | h
    · exact .inl (vOf_foot (by rw [hv, ← own_len A q L C]; exact h))
    · exact .inl h

/-- The file is gone. -/
theorem Found.gone {w W : World} {d o m : Nat} {F : Gf} {cs : Array Value} {n q : Nm} {t : List UInt8} {g : Nat} {os : Array Value} (h : Found w d o m F cs n t g os W) (h0 : cs[o]? = some (.map (some m)))
    (h1 : cs[o + 1]? = some (.int .i64 (tot (pr F) : Int))) (hn : n.length ≤ 16) (hf : Fit (pr F)) (hl : F.length ≤ 4095) :
    Calls Try.prog 126 #[fp d o, nm n] W fun e w' => e = .returned (.tuple #[]) ∧ Done w d o m F cs (doA ⟨2, n, q, 0, []⟩ (pr F)) w' := by
  refine (drop_any h.blk h0 h1 h.keep (by omega) hf (by omega)).mono ?_
  rintro e' w' ⟨rfl, r1, r2, r3⟩
  have ed : doA ⟨2, n, q, 0, []⟩ (pr F) = delA n (pr F) := by
    exact doA_remove h.get
  refine ⟨rfl, _, r1, by rw [pr_del, ed], by rw [ed, ← pr_del]; exact r2, (OnlyS.of_below (S := fun k => k = d ∨ k = m ∨ foot F k) h.only fun k hk _ => hk).then r3 fun k _ h => ?_, fun k hk => .inl (foot_del hk)⟩
  rcases h with h | h
  · exact .inl h
  · exact .inr (.inl h)

/-- The file is gone, its text is laid under another name. -/
theorem Found.move {w W W' : World} {d o m : Nat} {F : Gf} {cs : Array Value} {n q : Nm} {t : List UInt8} {g : Nat} {os : Array Value} (h : Found w d o m F cs n t g os W) (h0 : cs[o]? = some (.map (some m)))
    (h1 : cs[o + 1]? = some (.int .i64 (tot (pr F) : Int))) (hq : q.length ≤ 16) (hf : Fit (pr F)) (hl : F.length ≤ 4095)
    (r1 : Keep W' m (delA n F)) (r2 : Blk W' d 123 (cs.setIfInBounds (o + 1) (.int .i64 (tot (pr (delA n F)) : Int)))) (r3 : OnlyS (fun k => k = d ∨ k = m) W W') :
    Calls Try.prog 125 #[fp d o, nm q, vOf n F] W' fun e w' => e = .returned (.tuple #[]) ∧ Done w d o m F cs (doA ⟨3, n, q, 0, []⟩ (pr F)) w' := by
  have hr : Row W 0 (vOf n F) t := by
    have h' := vOf_row h.keep n
    rw [h.get] at h'
    exact h'
  have hr' : Row W' 0 (vOf n F) t := hr.same fun k hk => r3.block k (hr.lt hk).2 fun e => by
    rcases e with e | e
    · exact row_ne_blk hr h.blk (by decide) (by rw [hk, e])
    · exact h.keep.ne hr (by rw [hk, e])
  have hf' : Fit (pr (delA n F)) := by rw [pr_del]; exact fun p hp => hf p (mem_del.1 hp).1
  have ht : t.length ≤ 8388608 := (hf _ (getA_mem h.get)).2
  refine (set_any r2 (by rw [set_get_ne]; exact h0) (set_get_same cs o _ _ h1) (r1.but _) (by omega) hf' (Nat.le_trans length_del (by omega)) r1.long hr' ht fun p hp hne k hk => vOf_apart h.keep n p (mem_del.1 hp).1 (mem_del.1 hp).2 k hk).mono ?_
  rintro e' w' ⟨rfl, s1, s2, s3⟩
  have ed : doA ⟨3, n, q, 0, []⟩ (pr F) = putA q t (delA n (pr F)) := by
    exact doA_rename h.get
  refine ⟨rfl, _, s1, by rw [pr_put, pr_del, ed], ?_, ((OnlyS.of_below (S := fun k => k = d ∨ k = m ∨ foot F k) h.only fun k hk _ => hk).then r3 fun k _ h => ?_).then s3 fun k _ h => ?_, fun k hk => ?_⟩
  · rw [set_twice] at s2
    rw [ed, ← pr_del, ← pr_put]
    exact s2
  · rcases h with h | h
    · exact .inl h
    · exact .inr (.inl h)
  · rcases h with h | h
    · exact .inl h
    · exact .inr (.inl h)
  · rcases foot_put hk with h | h
    · exact .inl (vOf_foot h)
    · exact .inl (foot_del h)


set_option maxHeartbeats 2000000 in
theorem do_cut {w : World} {d o m : Nat} {F : Gf} {n q : Nm} {a : Nat} {v : Value} {cs : Array Value} {t : List UInt8} (hb : Blk w d 123 cs) (h0 : cs[o]? = some (.map (some m))) (h1 : cs[o + 1]? = some (.int .i64 (tot (pr F) : Int)))
    (hk : Keep w m F) (hf : Fit (pr F)) (hl : F.length ≤ 4095) (hn : n.length ≤ 16) (hg : getA n (pr F) = some t) :
    Calls Try.prog 104 #[fp d o, .agg #[.int .i64 1, nm n, nm q, .int .i64 (a : Int), v]] w fun e w' => e = .returned (.tuple #[]) ∧ Done w d o m F cs (doA ⟨1, n, q, a, []⟩ (pr F)) w' := by
  have hb0 : Below w.heap.size w (w.alloc (.cells #[.int .i64 1, nm n, nm q, .int .i64 (a : Int), v] 155)) := (Below.refl _ _).alloc (Nat.le_refl _) _
  have hn2 : n.length ≤ 9223372036854775807 := by omega
  have hb1 := hb.keep hb0
  have c0 : (w.alloc (.cells #[.int .i64 1, nm n, nm q, .int .i64 (a : Int), v] 155)).cell? ⟨d, o, none⟩ = some (.map (some m)) := by rw [Blk.cell hb1]; exact h0
  have hsome : (getA n F).isSome = true := by
    rw [pr_get] at hg
    cases h : getA n F with
    | none => rw [h] at hg; cases hg
    | some x => rfl
  have HH := Lib.hid (has_any c0 (hk.below hb0) hn2)
  rw [hsome] at HH
  have hfound : Found w d o m F cs n t w.heap.size #[.int .i64 1, nm n, nm q, .int .i64 (a : Int), v] (w.alloc (.cells #[.int .i64 1, nm n, nm q, .int .i64 (a : Int), v] 155)) :=
    ⟨hb1, hk.below hb0, Blk.new w _ _, hb0, hg, Nat.le_refl _⟩
  obtain ⟨A, C, hvo⟩ := slice_of_row (vOf_row hk n)
  rw [hg] at hvo
  obtain ⟨L, hL⟩ : ∃ L, L = t.length := ⟨_, rfl⟩
  have hvo : vOf n F = .slice A L C := by rw [hvo, hL]; rfl
  have hL8 : L ≤ 8388608 := by rw [hL]; exact (hf _ (getA_mem hg)).2
  have hlk : ∀ N, (Instr.lookup 118 (.map (some m)) (nm n) false).run Try.prog ((w.alloc (.cells #[.int .i64 1, nm n, nm q, .int .i64 (a : Int), v] 155)).drewN N) = .ok (.slice A L C) ((w.alloc (.cells #[.int .i64 1, nm n, nm q, .int .i64 (a : Int), v] 155)).drewN N) := fun N => by
    rw [look ((sames_drewN _ N).keep (hk.below hb0)) hn2, hvo]
  obtain ⟨p, hp⟩ : ∃ p, p = min a L := ⟨_, rfl⟩
  have hcut := fun W (h : Found w d o m F cs n t w.heap.size #[.int .i64 1, nm n, nm q, .int .i64 (a : Int), v] W) => h.cut (q' := q) hvo hp h0 h1 hn hf hl
  have hmin : ∀ (ts : Array TypeId) (ty : TypeId) (W : World), (Builtin.min_ ts ty #[.int .i64 (a : Int), .int .i64 (L : Int)]).run Try.prog W = .ok (.int .i64 (p : Int)) W := fun ts ty W => by
    have e : ((if (L : Int) < (a : Int) then (L : Int) else (a : Int)) : Int) = (p : Int) := by omega
    rw [run_min_int2]
    congr 2
    try exact e
  have hLC : L ≤ C := by
    have h := vOf_row hk n
    rw [hvo] at h
    rcases h.2 with ⟨e, _⟩ | ⟨g, cap, cur, e, _, _, hx, _⟩
    · simp at e; omega
    · simp at e
      obtain ⟨_, e1, e2⟩ := e
      omega
  have hsl : ∀ W, (Instr.sliceAt 22 (.slice A L C) none (some (.int .i64 (p : Int))) none).run Try.prog W = .ok (.slice A p C) W := slice_to A L C p (by omega)
  have HF := Lib.hid hfound
  have HCut := Lib.hid hcut
  obtain ⟨N, hN⟩ : ∃ N, N = nm n := ⟨_, rfl⟩
  obtain ⟨M, hM⟩ : ∃ M, M = nm q := ⟨_, rfl⟩
  rw [← hN, ← hM] at HH HF HCut hlk c0 ⊢
  clear hb h0 h1 hk hf hl hn hg hb0 hb1 hn2 hsome hfound hvo hcut hp hN hM hL
  go_enter Try.func104, Try.ntmps104
  go_wp2_with fail
  refine HH.out.mono ?_
  rintro e w' ⟨rfl, rfl⟩
  go_wp2
  go_quiet (fail)
  go_wp2
  clear hlk c0
  refine region_tail 10 (by kernel_rfl) (by kernel_rfl) (Found w d o m F cs n t w.heap.size #[.int .i64 1, N, M, .int .i64 (a : Int), v]) ((HF.out.sames (sames_drewN _ nq)).sames (sames_drew _)) ?_
  intro W hW
  have d1 : W.cell? ⟨w.heap.size, 1, none⟩ = some N := by rw [Blk.cell hW.opb]; rfl
  have d3 : W.cell? ⟨w.heap.size, 3, none⟩ = some (.int .i64 (a : Int)) := by rw [Blk.cell hW.opb]; rfl
  have HW := Lib.hid hW
  clear hW
  simp only [List.take_succ_cons, List.take_zero, List.drop_succ_cons, List.drop_zero]
  repeat (first | go_big_quiet_skip | (go_big_quiet_want; go_big_quiet_op; go_big_quiet_on))
  refine wpQuiet_nil ?_
  go_wp2_with fail
  refine (HCut.out W HW.out).mono ?_
  rintro e w' ⟨rfl, h⟩
  have HE := Lib.hid h
  clear h d1 d3 hsl hmin
  go_wp2
  first | go_end0 | refine bodyPost_ret (results_none rfl _ _ _) rfl ?_
  exact ⟨rfl, HE.out⟩
set_option maxHeartbeats 2000000 in
theorem do_remove {w : World} {d o m : Nat} {F : Gf} {n q : Nm} {v : Value} {cs : Array Value} {t : List UInt8} (hb : Blk w d 123 cs) (h0 : cs[o]? = some (.map (some m))) (h1 : cs[o + 1]? = some (.int .i64 (tot (pr F) : Int)))
    (hk : Keep w m F) (hf : Fit (pr F)) (hl : F.length ≤ 4095) (hn : n.length ≤ 16) (hg : getA n (pr F) = some t) :
    Calls Try.prog 104 #[fp d o, .agg #[.int .i64 2, nm n, nm q, .int .i64 0, v]] w fun e w' => e = .returned (.tuple #[]) ∧ Done w d o m F cs (doA ⟨2, n, q, 0, []⟩ (pr F)) w' := by
  have hb0 : Below w.heap.size w (w.alloc (.cells #[.int .i64 2, nm n, nm q, .int .i64 0, v] 155)) := (Below.refl _ _).alloc (Nat.le_refl _) _
  have hn2 : n.length ≤ 9223372036854775807 := by omega
  have hb1 := hb.keep hb0
  have c0 : (w.alloc (.cells #[.int .i64 2, nm n, nm q, .int .i64 0, v] 155)).cell? ⟨d, o, none⟩ = some (.map (some m)) := by rw [Blk.cell hb1]; exact h0
  have hsome : (getA n F).isSome = true := by
    rw [pr_get] at hg
    cases h : getA n F with
    | none => rw [h] at hg; cases hg
    | some x => rfl
  have HH := Lib.hid (has_any c0 (hk.below hb0) hn2)
  rw [hsome] at HH
  have hfound : Found w d o m F cs n t w.heap.size #[.int .i64 2, nm n, nm q, .int .i64 0, v] (w.alloc (.cells #[.int .i64 2, nm n, nm q, .int .i64 0, v] 155)) :=
    ⟨hb1, hk.below hb0, Blk.new w _ _, hb0, hg, Nat.le_refl _⟩
  obtain ⟨V, hV⟩ : ∃ V, V = vOf n F := ⟨_, rfl⟩
  have hlk : ∀ N, (Instr.lookup 118 (.map (some m)) (nm n) false).run Try.prog ((w.alloc (.cells #[.int .i64 2, nm n, nm q, .int .i64 0, v] 155)).drewN N) = .ok V ((w.alloc (.cells #[.int .i64 2, nm n, nm q, .int .i64 0, v] 155)).drewN N) := fun N => by
    rw [look ((sames_drewN _ N).keep (hk.below hb0)) hn2, hV]
  have HGo := Lib.hid (fun W (h : Found w d o m F cs n t w.heap.size #[.int .i64 2, nm n, nm q, .int .i64 0, v] W) => h.gone (q := q) h0 h1 hn hf hl)

  have HF := Lib.hid hfound
  obtain ⟨N, hN⟩ : ∃ N, N = nm n := ⟨_, rfl⟩
  obtain ⟨M, hM⟩ : ∃ M, M = nm q := ⟨_, rfl⟩
  rw [← hN, ← hM] at HH HF hlk c0 HGo ⊢
  clear hb h0 h1 hk hf hl hn hg hb0 hb1 hn2 hsome hfound hN hM hV
  go_enter Try.func104, Try.ntmps104
  go_wp2_with fail
  refine HH.out.mono ?_
  rintro e w' ⟨rfl, rfl⟩
  go_wp2
  go_quiet (fail)
  clear hlk c0
  obtain ⟨W, hW⟩ : ∃ W, W = (w.alloc (.cells #[.int .i64 2, N, M, .int .i64 0, v] 155)).drewN nq := ⟨_, rfl⟩
  have HW := Lib.hid (HF.out.sames (sames_drewN _ nq))
  rw [← hW] at HW ⊢
  have d0 : W.cell? ⟨w.heap.size, 0, none⟩ = some (.int .i64 2) := by rw [Blk.cell HW.out.opb]; rfl
  have d1 : W.cell? ⟨w.heap.size, 1, none⟩ = some N := by rw [Blk.cell HW.out.opb]; rfl
  clear hW
  go_wp2_with fail
  refine (HGo.out W HW.out).mono ?_
  rintro e w' ⟨rfl, h⟩
  have HE := Lib.hid h
  clear h d0 d1
  go_wp2
  first | go_end0 | refine bodyPost_ret (results_none rfl _ _ _) rfl ?_
  exact ⟨rfl, HE.out⟩

set_option maxHeartbeats 2000000 in
theorem do_rename {w : World} {d o m : Nat} {F : Gf} {n q : Nm} {v : Value} {cs : Array Value} {t : List UInt8} (hb : Blk w d 123 cs) (h0 : cs[o]? = some (.map (some m))) (h1 : cs[o + 1]? = some (.int .i64 (tot (pr F) : Int)))
    (hk : Keep w m F) (hf : Fit (pr F)) (hl : F.length ≤ 4095) (hn : n.length ≤ 16) (hq : q.length ≤ 16) (hg : getA n (pr F) = some t) :
    Calls Try.prog 104 #[fp d o, .agg #[.int .i64 3, nm n, nm q, .int .i64 0, v]] w fun e w' => e = .returned (.tuple #[]) ∧ Done w d o m F cs (doA ⟨3, n, q, 0, []⟩ (pr F)) w' := by
  have hb0 : Below w.heap.size w (w.alloc (.cells #[.int .i64 3, nm n, nm q, .int .i64 0, v] 155)) := (Below.refl _ _).alloc (Nat.le_refl _) _
  have hn2 : n.length ≤ 9223372036854775807 := by omega
  have hb1 := hb.keep hb0
  have c0 : (w.alloc (.cells #[.int .i64 3, nm n, nm q, .int .i64 0, v] 155)).cell? ⟨d, o, none⟩ = some (.map (some m)) := by rw [Blk.cell hb1]; exact h0
  have hsome : (getA n F).isSome = true := by
    rw [pr_get] at hg
    cases h : getA n F with
    | none => rw [h] at hg; cases hg
    | some x => rfl
  have HH := Lib.hid (has_any c0 (hk.below hb0) hn2)
  rw [hsome] at HH
  have hfound : Found w d o m F cs n t w.heap.size #[.int .i64 3, nm n, nm q, .int .i64 0, v] (w.alloc (.cells #[.int .i64 3, nm n, nm q, .int .i64 0, v] 155)) :=
    ⟨hb1, hk.below hb0, Blk.new w _ _, hb0, hg, Nat.le_refl _⟩
  obtain ⟨V, hV⟩ : ∃ V, V = vOf n F := ⟨_, rfl⟩
  have hlk : ∀ N, (Instr.lookup 118 (.map (some m)) (nm n) false).run Try.prog ((w.alloc (.cells #[.int .i64 3, nm n, nm q, .int .i64 0, v] 155)).drewN N) = .ok V ((w.alloc (.cells #[.int .i64 3, nm n, nm q, .int .i64 0, v] 155)).drewN N) := fun N => by
    rw [look ((sames_drewN _ N).keep (hk.below hb0)) hn2, hV]
  have HGo := Lib.hid (fun W (h : Found w d o m F cs n t w.heap.size #[.int .i64 3, nm n, nm q, .int .i64 0, v] W) => drop_any h.blk h0 h1 h.keep (n := n) (by omega) hf (by omega))
  have HMv := Lib.hid (fun W W' (h : Found w d o m F cs n t w.heap.size #[.int .i64 3, nm n, nm q, .int .i64 0, v] W) => h.move (W' := W') h0 h1 hq hf hl)
  rw [← hV] at HMv

  have HF := Lib.hid hfound
  obtain ⟨N, hN⟩ : ∃ N, N = nm n := ⟨_, rfl⟩
  obtain ⟨M, hM⟩ : ∃ M, M = nm q := ⟨_, rfl⟩
  rw [← hN, ← hM] at HH HF hlk c0 HGo HMv ⊢
  clear hb h0 h1 hk hf hl hn hg hb0 hb1 hn2 hsome hfound hN hM hV hq
  go_enter Try.func104, Try.ntmps104
  go_wp2_with fail
  refine HH.out.mono ?_
  rintro e w' ⟨rfl, rfl⟩
  go_wp2
  go_quiet (fail)
  clear hlk c0
  obtain ⟨W, hW⟩ : ∃ W, W = (w.alloc (.cells #[.int .i64 3, N, M, .int .i64 0, v] 155)).drewN nq := ⟨_, rfl⟩
  have HW := Lib.hid (HF.out.sames (sames_drewN _ nq))
  rw [← hW] at HW ⊢
  have d0 : W.cell? ⟨w.heap.size, 0, none⟩ = some (.int .i64 3) := by rw [Blk.cell HW.out.opb]; rfl
  have d1 : W.cell? ⟨w.heap.size, 1, none⟩ = some N := by rw [Blk.cell HW.out.opb]; rfl
  clear hW
  have HOp := Lib.hid HW.out.opb
  have d2 : W.cell? ⟨w.heap.size, 2, none⟩ = some M := by rw [Blk.cell HW.out.opb]; rfl
  go_wp2_with fail
  refine (HGo.out W HW.out).mono ?_
  rintro e w2 ⟨rfl, r1, r2, r3⟩
  have hd : w.heap.size ≠ d := fun e => by
    have h := HW.out.blk
    rw [← e] at h
    unfold Blk at h
    have h' := HW.out.opb
    unfold Blk at h'
    rw [h] at h'
    simp at h'
  have hm : w.heap.size ≠ m := fun e => HW.out.keep.ne_blk HW.out.opb e.symm
  have e2 : w2.cell? ⟨w.heap.size, 2, none⟩ = some M := by
    rw [World.cell?_of_block (w := W) (r3.block w.heap.size HW.out.opb.lt (by rintro (h | h); exact hd h; exact hm h))]
    exact d2
  have HG := Lib.hid (HMv.out W w2 HW.out r1 r2 r3)
  clear r1 r2 r3 d0 d1 d2 hd hm
  go_wp2_with fail
  refine HG.out.mono ?_
  rintro e w' ⟨rfl, h⟩
  have HE := Lib.hid h
  clear h e2
  go_wp2
  first | go_end0 | refine bodyPost_ret (results_none rfl _ _ _) rfl ?_
  exact ⟨rfl, HE.out⟩

end Go.Proofs.Ytboongdoggggoaa
