/- has, usedWith, set, drop: files in a disk's block. -/
import Derived.Test.YtboongdoggggoaaDiskKit
namespace Go.Proofs.Ytboongdoggggoaa
set_option maxRecDepth 20000
open Go.RowKit Go.Maps DiskMath

abbrev fp (d o : Nat) : Value := .pointer (some ⟨d, o, none⟩)

theorem has_any {w : World} {d o m : Nat} {F : Gf} {n : Nm} (c0 : w.cell? ⟨d, o, none⟩ = some (.map (some m))) (hk : Keep w m F) (hn : n.length ≤ 9223372036854775807) :
    Calls Try.prog 124 #[fp d o, nm n] w fun e w' => e = .returned (.bool (getA n F).isSome) ∧ w = w' := by
  have hl := look_ok hk hn
  obtain ⟨b, hb⟩ : ∃ b, b = (getA n F).isSome := ⟨_, rfl⟩
  obtain ⟨v, hv⟩ : ∃ v, v = vOf n F := ⟨_, rfl⟩
  obtain ⟨N, hN⟩ : ∃ N, N = nm n := ⟨_, rfl⟩
  rw [← hb, ← hv, ← hN] at hl
  rw [← hb, ← hN]
  clear hk hn hb hv hN
  go_enter Try.func124, Try.ntmps124
  go_wp2
  go_ret
  exact ⟨rfl, rfl⟩

set_option maxHeartbeats 400000 in
theorem usedWith_any {w : World} {d o m : Nat} {F : Gf} {n : Nm} {a k : Nat} (c0 : w.cell? ⟨d, o, none⟩ = some (.map (some m))) (c1 : w.cell? ⟨d, o + 1, none⟩ = some (.int .i64 (tot (pr F) : Int))) (hk : Keep w m F) (hn : n.length ≤ 9223372036854775807)
    (hf : Fit (pr F)) (hl : F.length ≤ 4096) (ha : a ≤ 1048576) (hkk : k ≤ 4194304) :
    Calls Try.prog 138 #[fp d o, nm n, .int .i64 (a : Int), .int .i64 (k : Int)] w fun e w' => e = .returned (.int .i64 (used (pr F) n a k : Int)) ∧ w = w' := by
  have hrow := vOf_row hk n
  have hlen := fit_get hf n
  have htl : tot (pr F) ≤ 34359738368 := by
    have h1 := tot_le (l := pr F) (k := 8388608) fun p hp => (hf p hp).2
    rw [pr_length] at h1
    have h2 := Nat.mul_le_mul_right 8388608 hl
    exact Nat.le_trans h1 h2
  have hgt : ((getA n (pr F)).getD []).length ≤ tot (pr F) := by
    cases hg : getA n (pr F) with
    | none => simp
    | some t => exact tot_get (getA_mem hg)
  have hl := look hk hn
  obtain ⟨A, C, hv⟩ := slice_of_row hrow
  rw [hv] at hl
  unfold used
  obtain ⟨T, hT⟩ : ∃ T, T = tot (pr F) := ⟨_, rfl⟩
  obtain ⟨L, hL⟩ : ∃ L, L = ((getA n (pr F)).getD []).length := ⟨_, rfl⟩
  obtain ⟨N, hN⟩ : ∃ N, N = nm n := ⟨_, rfl⟩
  rw [← hT] at c1 htl hgt
  rw [← hL] at hl hlen hgt
  rw [← hN] at hl
  rw [← hT, ← hL, ← hN]
  have hq : (max (L : Int) ((a : Int) + k)) = ((max L (a + k) : Nat) : Int) := by omega
  obtain ⟨M, hM⟩ : ∃ M, M = max L (a + k) := ⟨_, rfl⟩
  have hM2 : M ≤ 16777216 := by omega
  have hmax : ∀ (ts : Array TypeId) (t : TypeId) (W : World), (Builtin.max_ ts t #[.int .i64 (L : Int), .int .i64 ((a : Int) + k)]).run Try.prog W = .ok (.int .i64 (M : Int)) W := fun ts t W => by
    have e : ((if (a : Int) + k > L then (a : Int) + k else L) : Int) = (M : Int) := by omega
    rw [run_max_int2, e]
  have hz := Lib.hid hM
  clear hk hn hf hrow hv hT hL hN hq hM
  by_cases h0 : k = 0
  · subst h0
    rw [if_pos rfl]
    go_enter Try.func138, Try.ntmps138
    go_wp2
    go_ret
    exact ⟨rfl, rfl⟩
  · rw [if_neg h0, ← hz.out]
    have e : ((T - L + M : Nat) : Int) = (T : Int) - L + M := by omega
    rw [e]
    clear e
    have h1 : (k : Int) ≠ 0 := by omega
    go_enter Try.func138, Try.ntmps138
    go_wp2
    go_ret
    exact ⟨rfl, rfl⟩

/-- Worlds of one memory. -/
structure Sames (w W : World) : Prop where
  heap : W.heap = w.heap
  os : W.os = w.os
  tape : W.tape = w.tape
  output : W.output = w.output

theorem sames_drew (w : World) : Sames w w.drew := ⟨rfl, rfl, rfl, rfl⟩
theorem sames_drewN (w : World) (n : Nat) : Sames w (w.drewN n) := ⟨rfl, rfl, rfl, rfl⟩
theorem Sames.only {w W : World} (h : Sames w W) (S : Nat → Prop) : OnlyS S w W := ⟨h.os, h.tape, h.output, by rw [h.heap]; exact Nat.le_refl _, fun k _ _ => by rw [h.heap]⟩
theorem Sames.keep {w W : World} (h : Sames w W) {X : Option Nm} {m : Nat} {F : Gf} (hk : KeepBut X w m F) : KeepBut X W m F := hk.same (by rw [h.heap]) fun k _ => by rw [h.heap]
theorem Sames.row {w W : World} (h : Sames w W) {B : Nat} {v : Value} {t : List UInt8} (hr : Row w B v t) : Row W B v t := hr.same fun k _ => by rw [h.heap]
theorem Sames.blk {w W : World} (h : Sames w W) {g : Nat} {t : TypeId} {cs : Array Value} (hb : Blk w g t cs) : Blk W g t cs := by unfold Blk at *; rw [h.heap]; exact hb
theorem Sames.below {w W : World} (h : Sames w W) : Below w.heap.size w W := ⟨h.os, h.tape, h.output, by rw [h.heap]; exact Nat.le_refl _, fun k _ => by rw [h.heap]⟩

theorem foot_ne {w : World} {m d : Nat} {F : Gf} {t : TypeId} {cs : Array Value} (hk : Keep w m F) (hb : Blk w d t cs) (ht : t ≠ 5) {k : Nat} (h : foot F k) : k ≠ d := fun e => by
  obtain ⟨p, hp, h1⟩ := h
  exact row_ne_blk (hk.row p hp) hb ht (by rw [h1, e])

theorem KeepBut.setBlk {X : Option Nm} {w : World} {m d : Nat} {F : Gf} {t : TypeId} {cs : Array Value} (hk : KeepBut X w m F) (hb : Blk w d t cs) (ht : t ≠ 5) (i : Nat) (v : Value) : KeepBut X (w.setCell ⟨d, i, none⟩ v) m F :=
  hk.sameX (heap_setCell_other w ⟨d, i, none⟩ m v (hk.ne_blk hb)) fun p hp hX k h => heap_setCell_other w ⟨d, i, none⟩ k v fun e => row_ne_blk (hk.rowX p hp hX) hb ht (by rw [h, e])

theorem Row.setBlk {w : World} {d B : Nat} {x : Value} {l : List UInt8} {t : TypeId} {cs : Array Value} (hr : Row w B x l) (hb : Blk w d t cs) (ht : t ≠ 5) (i : Nat) (v : Value) : Row (w.setCell ⟨d, i, none⟩ v) B x l :=
  hr.same fun k h => heap_setCell_other w ⟨d, i, none⟩ k v fun e => row_ne_blk hr hb ht (by rw [h, e])

theorem only_set (w : World) (d i : Nat) (v : Value) : OnlyS (fun k => k = d) w (w.setCell ⟨d, i, none⟩ v) :=
  ⟨rfl, rfl, rfl, by simp [World.setCell], fun k _ hne => heap_setCell_other w ⟨d, i, none⟩ k v hne⟩

theorem Blk.only {w w' : World} {d : Nat} {S : Nat → Prop} {t : TypeId} {cs : Array Value} (hb : Blk w d t cs) (h : OnlyS S w w') (hd : ¬ S d) : Blk w' d t cs := by
  unfold Blk at *
  rw [h.block d (Array.getElem?_eq_some_iff.1 hb).1 hd]
  exact hb

theorem wpList_mapUpdate_by {P : Program} {w : World} {ops : Array Oper} {rest : List Oper} {o : Oper} {a : Act} {Q : Exit → Act → World → Prop} (hgd : o.guard = none) (m x v : Operand) (t : TypeId) (ho : o.op = .mapUpdate t m x v)
    (mv key val : Value) (hm : a.eval m = mv) (hx : a.eval x = key) (hv : a.eval v = val) (R : World → Prop) (hr : ∃ w', (Instr.mapUpdate t mv key val).run P w = .ok () w' ∧ R w') (h : ∀ w', R w' → wpList P ops Q rest (a.put o.dst undef) w') : wpList P ops Q (o :: rest) a w := by
  obtain ⟨w', hrun, hR⟩ := hr
  refine wpList_plain hgd fun K hK => ?_
  unfold Oper.wp
  simp [execOp, ho, hm, hx, hv, hrun, Result.andThen]
  exact hK _ _ (h w' hR)

theorem wpList_delete_by {P : Program} {w : World} {ops : Array Oper} {rest : List Oper} {o : Oper} {a : Act} {Q : Exit → Act → World → Prop} (hgd : o.guard = none) (m x : Operand) (t k : TypeId)
    (ho : o.op = .call { callee := .builtin .delete, args := #[m, x], argTypes := #[t, k] }) (mv key : Value) (hm : a.eval m = mv) (hx : a.eval x = key) (R : World → Prop)
    (hr : ∃ w', (Builtin.delete_ #[t, k] o.type #[mv, key]).run P w = .ok (.tuple #[]) w' ∧ R w') (h : ∀ w', R w' → wpList P ops Q rest (a.put o.dst (.tuple #[])) w') : wpList P ops Q (o :: rest) a w := by
  obtain ⟨w', hrun, hR⟩ := hr
  refine wpList_plain hgd fun K hK => ?_
  unfold Oper.wp
  simp [execOp, ho, resolve, invoke, builtin, hm, hx, hrun, Result.andThen]
  exact hK _ _ (h w' hR)

theorem set_tot (F : Gf) (n : Nm) (v : Value) (t : List UInt8) (h : Rise F) : (tot (pr (putA n (v, t) F)) : Int) = (tot (pr F) : Int) + ((t.length : Int) - (((getA n (pr F)).getD []).length : Int)) := by
  rw [pr_put]
  have := tot_put n t (pr F) ((rise_map (fun x : Value × List UInt8 => x.2)).2 h)
  omega

theorem del_tot (F : Gf) (n : Nm) (h : Rise F) : (tot (pr (delA n F)) : Int) = (tot (pr F) : Int) - (((getA n (pr F)).getD []).length : Int) := by
  rw [pr_del]
  have := tot_del n (pr F) ((rise_map (fun x : Value × List UInt8 => x.2)).2 h)
  omega

theorem tot_small {F : Gf} (hf : Fit (pr F)) (hl : F.length ≤ 4096) : tot (pr F) ≤ 34359738368 := by
  have h1 := tot_le (l := pr F) (k := 8388608) fun p hp => (hf p hp).2
  rw [pr_length] at h1
  have h2 := Nat.mul_le_mul_right 8388608 hl
  exact Nat.le_trans h1 h2

theorem get_le (l : Fs) (n : Nm) : ((getA n l).getD []).length ≤ tot l := by
  cases hg : getA n l with
  | none => simp
  | some t => exact tot_get (getA_mem hg)

set_option maxHeartbeats 1000000 in
theorem set_any {w : World} {d o m : Nat} {F : Gf} {n : Nm} {v : Value} {t : List UInt8} {cs : Array Value} (hb : Blk w d 123 cs) (h0 : cs[o]? = some (.map (some m))) (h1 : cs[o + 1]? = some (.int .i64 (tot (pr F) : Int))) (hk : KeepBut (some n) w m F)
    (hn : n.length ≤ 9223372036854775807) (hf : Fit (pr F)) (hl : F.length ≤ 4096) (hlg : Long F) (hv : Row w 0 v t) (ht : t.length ≤ 8388608) (ha : ∀ p ∈ F, p.1 ≠ n → Apart v p.2.1) :
    Calls Try.prog 125 #[fp d o, nm n, v] w fun e w' => e = .returned (.tuple #[]) ∧ Keep w' m (putA n (v, t) F) ∧ Blk w' d 123 (cs.setIfInBounds (o + 1) (.int .i64 (tot (pr (putA n (v, t) F)) : Int))) ∧ OnlyS (fun k => k = d ∨ k = m) w w' := by
  have htot := tot_small hf hl
  have hgt := get_le (pr F) n
  have hset := set_tot F n v t hk.rise
  obtain ⟨A, C, rfl⟩ := slice_of_row hv
  obtain ⟨B, D, hvo⟩ := vOf_long hlg n
  obtain ⟨T, hT⟩ : ∃ T, T = tot (pr F) := ⟨_, rfl⟩
  obtain ⟨L, hL⟩ : ∃ L, L = ((getA n (pr F)).getD []).length := ⟨_, rfl⟩
  obtain ⟨l, hl'⟩ : ∃ l, l = t.length := ⟨_, rfl⟩
  obtain ⟨U, hU⟩ : ∃ U : Int, U = (tot (pr (putA n (.slice A t.length C, t) F)) : Int) := ⟨_, rfl⟩
  rw [← hU] at hset ⊢
  rw [← hT] at h1 htot hgt hset
  rw [← hL] at hvo hgt hset
  have HV := Lib.hid hv
  have HK := Lib.hid hk
  have HB := Lib.hid hb
  have HAp := Lib.hid ha
  rw [← hl'] at HV HAp hset ⊢
  have HL := Lib.hid hl'
  have HN := Lib.hid hn
  have HFl := Lib.hid hl
  rw [← hl'] at ht
  obtain ⟨N, hN⟩ : ∃ N, N = nm n := ⟨_, rfl⟩
  rw [← hN]
  have HNe := Lib.hid hN
  have HU := Lib.hid hU
  clear hb hk hn hf hl hv ha hT hL hl' hN hU hlg
  go_enter Try.func125, Try.ntmps125
  go_wp2
  refine region_tail 17 (by kernel_rfl) (by kernel_rfl) (Sames w) (sames_drew w) ?_
  intro W hW
  have hlk := look (hW.keep HK.out) HN.out
  rw [hvo, ← HNe.out] at hlk
  have c0 : W.cell? ⟨d, o, none⟩ = some (.map (some m)) := by rw [Blk.cell (hW.blk HB.out)]; exact h0
  have c1 : W.cell? ⟨d, o + 1, none⟩ = some (.int .i64 (T : Int)) := by rw [Blk.cell (hW.blk HB.out)]; exact h1
  have f1 : W.frozen? ⟨d, o + 1, none⟩ = false := Blk.frozen (hW.blk HB.out) _
  have hne := HK.out.ne_blk HB.out
  have hb2 := Blk.set (hW.blk HB.out) (o + 1) (.int .i64 ((T : Int) + ((l : Int) - (L : Int))))
  obtain ⟨w2, hr2, hk2, ho2⟩ := store ((hW.keep HK.out).setBlk (hW.blk HB.out) (by decide) (o + 1) (.int .i64 ((T : Int) + ((l : Int) - (L : Int))))) HN.out (Nat.le_trans HFl.out (by omega)) ((hW.row HV.out).setBlk (hW.blk HB.out) (by decide) (o + 1) _) HAp.out
  rw [← HNe.out] at hr2
  have hb3 := hb2.only ho2 (fun e => hne e.symm)
  have ho3 : OnlyS (fun k => k = d ∨ k = m) w w2 := ((hW.only _).then (only_set W d (o + 1) _) fun i _ h => .inl h).then ho2 fun i _ h => .inr h
  rw [← hset] at hb3
  have HK2 := Lib.hid hk2
  have HB3 := Lib.hid hb3
  have HO3 := Lib.hid ho3
  clear hW hb2 hk2 ho2 hb3 ho3
  simp only [List.take_succ_cons, List.take_zero, List.drop_succ_cons, List.drop_zero]
  repeat (first | go_big_quiet_skip | (go_big_quiet_want; go_big_quiet_op; go_big_quiet_on))
  refine wpQuiet_nil ?_
  go_wp2
  go_end0
  refine ⟨rfl, ?_, HB3.out, HO3.out⟩
  have h := HK2.out
  rw [HL.out] at h ⊢
  exact h

set_option maxHeartbeats 1000000 in
theorem drop_any {w : World} {d o m : Nat} {F : Gf} {n : Nm} {cs : Array Value} (hb : Blk w d 123 cs) (h0 : cs[o]? = some (.map (some m))) (h1 : cs[o + 1]? = some (.int .i64 (tot (pr F) : Int))) (hk : Keep w m F)
    (hn : n.length ≤ 9223372036854775807) (hf : Fit (pr F)) (hl : F.length ≤ 4096) :
    Calls Try.prog 126 #[fp d o, nm n] w fun e w' => e = .returned (.tuple #[]) ∧ Keep w' m (delA n F) ∧ Blk w' d 123 (cs.setIfInBounds (o + 1) (.int .i64 (tot (pr (delA n F)) : Int))) ∧ OnlyS (fun k => k = d ∨ k = m) w w' := by
  have htot := tot_small hf hl
  have hgt := get_le (pr F) n
  have hset := del_tot F n hk.rise
  obtain ⟨B, D, hvo⟩ := slice_of_row (vOf_row hk n)
  obtain ⟨T, hT⟩ : ∃ T, T = tot (pr F) := ⟨_, rfl⟩
  obtain ⟨L, hL⟩ : ∃ L, L = ((getA n (pr F)).getD []).length := ⟨_, rfl⟩
  obtain ⟨U, hU⟩ : ∃ U : Int, U = (tot (pr (delA n F)) : Int) := ⟨_, rfl⟩
  rw [← hU] at hset ⊢
  rw [← hT] at h1 htot hgt hset
  rw [← hL] at hvo hgt hset
  have HK := Lib.hid hk
  have HB := Lib.hid hb
  have HN := Lib.hid hn
  obtain ⟨N, hN⟩ : ∃ N, N = nm n := ⟨_, rfl⟩
  rw [← hN]
  have HNe := Lib.hid hN
  clear hb hk hn hf hl hT hL hN hU
  go_enter Try.func126, Try.ntmps126
  go_wp2
  refine region_tail 14 (by kernel_rfl) (by kernel_rfl) (Sames w) (sames_drew w) ?_
  intro W hW
  have hlk := look (hW.keep HK.out) HN.out
  rw [hvo, ← HNe.out] at hlk
  have c0 : W.cell? ⟨d, o, none⟩ = some (.map (some m)) := by rw [Blk.cell (hW.blk HB.out)]; exact h0
  have c1 : W.cell? ⟨d, o + 1, none⟩ = some (.int .i64 (T : Int)) := by rw [Blk.cell (hW.blk HB.out)]; exact h1
  have f1 : W.frozen? ⟨d, o + 1, none⟩ = false := Blk.frozen (hW.blk HB.out) _
  have hne := HK.out.ne_blk HB.out
  have hb2 := Blk.set (hW.blk HB.out) (o + 1) (.int .i64 ((T : Int) - (L : Int)))
  have hr2 := fun ty => drop ((hW.keep HK.out).setBlk (hW.blk HB.out) (by decide) (o + 1) (.int .i64 ((T : Int) - (L : Int)))) HN.out ty
  rw [← HNe.out] at hr2
  have HR2 := Lib.hid hr2
  have HB2 := Lib.hid hb2
  have HW := Lib.hid hW
  clear hW hb2 hr2
  simp only [List.take_succ_cons, List.take_zero, List.drop_succ_cons, List.drop_zero]
  repeat (first | go_big_quiet_skip | (go_big_quiet_want; go_big_quiet_op; go_big_quiet_on))
  refine wpQuiet_nil ?_
  go_wp2_with (at_delete; refine wpList_delete_by rfl _ _ 118 9 rfl _ _ rfl rfl _ (HR2.out _) ?_; rintro w2 ⟨hk2, ho2⟩; (have HK2 := Lib.hid hk2); (have HO2 := Lib.hid ho2); clear hk2 ho2)
  go_end0
  refine ⟨rfl, HK2.out, ?_, ((HW.out.only _).then (only_set W d (o + 1) _) fun i _ h => .inl h).then HO2.out fun i _ h => .inr h⟩
  have hb3 := HB2.out.only HO2.out (fun e => hne e.symm)
  exact hb3

end Go.Proofs.Ytboongdoggggoaa
