/- The reference's Write. -/
import Derived.Test.YtabddeoeihlnnaaRefCut
namespace Go.Proofs.Ytabddeoeihlnnaa
open Go.RowKit Go.Maps DiskMath Reg

theorem tot_write {l : Fs} {n q : Nm} {a : Nat} {b : List UInt8} (h : Rise l) : tot (doA ⟨0, n, q, a, b⟩ l) = used l n a b.length := by
  have h1 := tot_put n (layT ((getA n l).getD []) a b) l h
  have h2 := tot_del n l h
  have e : doA ⟨0, n, q, a, b⟩ l = putA n (layT ((getA n l).getD []) a b) l := by simp [doA]
  rw [e]
  unfold used
  by_cases hb : b = []
  · subst hb
    have e2 : layT ((getA n l).getD []) a [] = (getA n l).getD [] := by unfold layT; rw [if_pos rfl]
    rw [e2] at h1 ⊢
    rw [if_pos (show ([] : List UInt8).length = 0 from rfl)]
    omega
  · rw [if_neg (by simpa using hb)]
    rw [layT_length _ _ _ hb] at h1
    omega

theorem tot_doA {l : Fs} {o : AOp} (h : Fit l) (ho : FitO o) (hl : l.length ≤ 50000) : tot (doA o l) ≤ 1099511627776 := by
  have h1 := tot_le (k := 8388608) (fun p hp => (fit_do o l h ho p hp).2)
  have h2 := length_do o l
  have h3 : (doA o l).length * 8388608 ≤ 100000 * 8388608 := Nat.mul_le_mul_right _ (by omega)
  omega

theorem IsRef.same_below {w w' : World} {S : Nat → Prop} {r c : Nat} {s : St} (h : IsRef w (fun k => S k ∨ (w.heap.size ≤ k ∧ k < w.heap.size)) r c s) (hb : Below w.heap.size w w') : IsRef w' (fun k => S k ∨ (w.heap.size ≤ k ∧ k < w'.heap.size)) r c s := by
  obtain ⟨fv, sv, ov, F1, F2, G, hd, ht⟩ := h.ex
  have hS : ∀ k, S k → k < w.heap.size := fun k hk => h.lt k (.inl hk)
  refine ⟨⟨fv, sv, ov, F1, F2, G, hd.same fun k hk => hb.block k (hd.lt hk), fun k hk => .inl ?_⟩, fun k hk => ?_⟩
  · rcases ht k hk with h | h
    · exact h
    · omega
  · rcases hk with h | h
    · exact Nat.lt_of_lt_of_le (hS k h) hb.size
    · exact h.2

set_option maxHeartbeats 1000000 in
set_option maxRecDepth 20000 in
theorem writer_any {w : World} {S : Nat → Prop} {r c : Nat} {s : St} {n : Nm} {a : Int} {ab : Option Addr} {lb cb : Nat} {b : List UInt8} (h0 : IsRef w S r c s) (hc : c + 1 ≤ 2000) (hn : n.length ≤ 9223372036854775807) (ha : -9223372036854775808 ≤ a ∧ a ≤ 9223372036854775807)
    (hb : Bys w (.slice ab lb cb) b) (hlb : b.length = lb) (hl : lb ≤ 4194304) :
    Calls Try.prog 30 #[dp r, nm n, .int .i64 a, .slice ab lb cb] w fun e w' => e = .returned (.int .i64 ((s.write n a b).1 : Int)) ∧ NextR w S r (c + 1) (s.write n a b).2 w' := by
  obtain ⟨y, hy⟩ : ∃ y, y = s.write n a b := ⟨_, rfl⟩
  rw [← hy]
  have HY := Lib.hid hy
  have hself : NextR w S r (c + 1) s w := (NextR.refl h0).mono (Nat.le_succ c) hc
  have HLt := Lib.hid h0.lt
  obtain ⟨fv, sv, ov, F1, F2, G, h, ht⟩ := h0.ex
  have c5 : w.cell? ⟨r, 5, none⟩ = some (.bool s.off) := by rw [Blk.cell h.blk]; rfl
  have HName := Lib.hid (named_any n w hn)
  have HD := Lib.hid h
  have HT := Lib.hid ht
  have HSelf := Lib.hid hself
  have HBy := Lib.hid hb
  have HLb := Lib.hid hlb
  obtain ⟨N, hN⟩ : ∃ N, nm n = .string N := ⟨_, rfl⟩
  rw [hN] at HName ⊢
  have HN := Lib.hid hN
  clear h ht h0 hself hN hb hlb hy
  by_cases h1 : s.off = true
  · have ey : y = (6, s) := by rw [HY.out]; unfold St.write; rw [if_pos h1]
    subst ey
    rw [h1] at c5
    clear h1 HY HName
    go_enter Try.func30, Try.ntmps30
    go_wp2
    go_ret
    exact ⟨rfl, HSelf.out⟩
  have H1 := Lib.hid h1
  rw [show s.off = false by simpa using h1] at c5
  clear h1
  by_cases h2 : named n = false
  · have ey : y = (1, s) := by rw [HY.out]; unfold St.write; rw [if_neg H1.out, h2]; rfl
    subst ey
    rw [h2] at HName
    clear h2 HY
    go_enter Try.func30, Try.ntmps30
    go_wp2_with fail
    refine HName.out.mono ?_
    rintro e w' ⟨rfl, rfl⟩
    go_wp2
    go_ret
    exact ⟨rfl, HSelf.out⟩
  have h2' : named n = true := by simpa using h2
  have HN16 := Lib.hid (named_len h2')
  rw [h2'] at HName
  have H2 := Lib.hid h2'
  clear h2 h2'
  by_cases h3 : a < 0 ∨ 1048576 < a
  · have ey : y = (9, s) := by rw [HY.out]; unfold St.write; rw [if_neg H1.out, H2.out, if_pos h3]; rfl
    subst ey
    clear HY
    have hx : (decide (a < 0) = true) ∨ (decide (a < 0) = false ∧ decide (1048576 < a) = true) := by
      by_cases h : a < 0
      · exact .inl (by simpa using h)
      · exact .inr ⟨by simpa using h, by simp; omega⟩
    rcases hx with hx | ⟨hx, hy⟩
    · clear h3
      go_enter Try.func30, Try.ntmps30
      go_wp2_with fail
      refine HName.out.mono ?_
      rintro e w' ⟨rfl, rfl⟩
      go_wp2
      all_goals first | (exfalso; simp at hx; omega) | (go_ret; exact ⟨rfl, HSelf.out⟩)
    · clear h3
      go_enter Try.func30, Try.ntmps30
      go_wp2_with fail
      refine HName.out.mono ?_
      rintro e w' ⟨rfl, rfl⟩
      go_wp2
      all_goals first | (exfalso; simp at hx hy; omega) | (go_ret; exact ⟨rfl, HSelf.out⟩)
  have H3 := Lib.hid h3
  obtain ⟨A, rfl⟩ : ∃ A : Nat, a = (A : Int) := ⟨a.toNat, by omega⟩
  have hA : A ≤ 1048576 := by omega
  have i1 : decide ((A : Int) < 0) = false := by simp
  have i2 : decide (1048576 < (A : Int)) = false := by simp; omega
  have hfo : FitO ⟨0, n, [], A, b⟩ := ⟨Nat.zero_le _, HN16.out, Nat.zero_le _, (by show A ≤ 8388608; omega), fun _ => hA, (by show b.length ≤ 4194304; have := HLb.out; omega), fun h => absurd rfl h, fun h => absurd h (Nat.not_lt.2 (Nat.zero_le 1))⟩
  have HFo := Lib.hid hfo
  obtain ⟨op, hop⟩ : ∃ op : AOp, op = ⟨0, n, [], A, b⟩ := ⟨_, rfl⟩
  have hba : Below w.heap.size w (w.alloc (.cells #[] 5)) := (Below.refl _ _).alloc (Nat.le_refl _) _
  have HBa := Lib.hid hba
  have A1 := Lib.hid (append_lit (B := w.heap.size) (Nat.le_refl _) (heap_alloc_new w (.cells #[] 5)) (HBy.out.below (Nat.le_refl _) hba) (by have := HLb.out; omega))
  have HOp := Lib.hid hop
  clear hfo h3 hba hop
  go_enter Try.func30, Try.ntmps30
  go_wp2_with fail
  refine HName.out.mono ?_
  rintro e w' ⟨rfl, rfl⟩
  go_wp2_with (at_builtin; refine wpList_append_by rfl _ _ 30 rfl _ _ rfl rfl _ A1.out ?_; rintro v w2 ⟨hr2, hb2⟩; (obtain ⟨va, vc, rfl⟩ := slice_of_row hr2); (have HR2 := Lib.hid hr2); (have HB2 := Lib.hid hb2); clear hr2 hb2)
  obtain ⟨cs, hcs⟩ : ∃ cs, cs = rC op (.slice va b.length vc) := ⟨_, rfl⟩
  have hcs2 : (#[.int .i64 1, .string N, .string ⟨#[]⟩, .int .i64 (A : Int), .slice va b.length vc] : Array Value) = cs := by
    rw [hcs, HOp.out]
    unfold rC
    simp only [HN.out]
    rfl
  rw [hcs2]
  have HCs2 := Lib.hid hcs2
  have hcs5 : cs.size = 5 := by rw [← hcs2]; rfl
  have hbw2 : Below w.heap.size w w2 := HBa.out.trans (HB2.out.mono HBa.out.size)
  have hb3 : Below w.heap.size w (w2.alloc (.cells cs 83)) := hbw2.alloc hbw2.size _
  obtain ⟨w3, hw3⟩ : ∃ w3, w3 = w2.alloc (.cells cs 83) := ⟨_, rfl⟩
  have hbx3 : Blk w3 w2.heap.size 83 cs := by rw [hw3]; exact Blk.new w2 _ _
  have hrow3 : Row w3 w.heap.size (.slice va b.length vc) b := by rw [hw3]; exact HR2.out.below ((Below.refl _ _).alloc (Nat.le_refl _) _)
  rw [← hw3] at hb3 ⊢
  have HB3 := Lib.hid hb3
  have HBx3 := Lib.hid hbx3
  have HRow3 := Lib.hid hrow3
  have HCs := Lib.hid hcs
  have hd3 : Rk w3 r c s fv sv ov F1 F2 G := HD.out.same fun k hk => hb3.block k (HD.out.lt hk)
  have HD3 := Lib.hid hd3
  obtain ⟨b0, hb0⟩ : ∃ b0, b0 = w2.heap.size := ⟨_, rfl⟩
  rw [← hb0] at HBx3 ⊢
  have hfo : FitO op := by rw [HOp.out]; exact HFo.out
  have HFo2 := Lib.hid hfo
  have hob : op.b = b := by rw [HOp.out]
  have HOb := Lib.hid hob
  obtain ⟨R, hR⟩ : ∃ R, R = max s.room 0 := ⟨_, rfl⟩
  obtain ⟨U, hU⟩ : ∃ U, U = tot (doA op (pr F1)) := ⟨_, rfl⟩
  have HU := Lib.hid hU
  have HRm := Lib.hid hR
  have hry : y = (if R < (U : Int) then (7, s) else (s.said, s.run op)) := by
    have hUu : U = used s.now n A b.length := by rw [hU, HOp.out, tot_write (by rw [HD.out.p1]; exact HD.out.ok.riseN), HD.out.p1]
    rw [HY.out]
    unfold St.write
    rw [if_neg H1.out, H2.out, if_neg H3.out, hUu, hR, HOp.out]
    simp
  have HRy := Lib.hid hry
  obtain ⟨t, ht⟩ : ∃ t, t = decide (R < (U : Int)) := ⟨_, rfl⟩
  have HTt := Lib.hid ht
  have hlen1 := HD.out.len
  have HLen1 := Lib.hid hlen1
  clear hcs hcs2 hbw2 hb3 hw3 hbx3 hrow3 hd3 hb0 hfo hob hU hR hry ht A1 i1 i2 hlen1
  have hG : ∀ W W' : World, Below w3.heap.size w3 W → Below W.heap.size W W' → Below w3.heap.size w3 W' := fun W W' h h' => h.trans (h'.mono h.size)
  have hcell : ∀ (W : World), Below w3.heap.size w3 W → ∀ (i : Nat) (u : Value), (rsC s fv sv ov)[i]? = some u → W.cell? ⟨r, i, none⟩ = some u := fun W hW i u hu => by rw [Blk.cell (HD3.out.blk.keep hW)]; exact hu
  refine region_by [(29, .is (dp r)), (30, .is (dp r)), (31, .is (.pointer (some ⟨r, 0, none⟩))), (32, .is fv), (33, .is (.agg cs)), (34, .sat (fun u W => DoEnd w3 fv F1 op u W) (fun _ _ _ h hb => h.below hb)), (35, .is (.int .i64 (U : Int))), (36, .is (dp r)), (37, .is (dp r)), (38, .is (.pointer (some ⟨r, 3, none⟩))), (39, .is (.int .i64 s.room)), (40, .is (.int .i64 R)), (41, .is (.bool t))] [0, 9, 41]
    (fun W => Below w3.heap.size w3 W) (by kernel_rfl) (by kernel_rfl) (by kernel_rfl) (by kernel_rfl) (by kernel_rfl) (Below.refl _ _).drew ?_ ?_
  · refine ⟨?c0, ?c1, ?c2, ?c3, ?c4, ?c5, ?c6, ?c7, ?c8, ?c9, ?c10, ?c11, ?c12, trivial⟩
    case c0 => exact ask_copy (guard_none rfl) (.tmp 0) (.inl rfl) (by intro k hk; cases hk; rfl)
    case c1 => exact ask_exec (guard_none rfl) (dp r) rfl rfl (by intro k hk; cases hk; rfl) (fun W hW => by kernel_rfl)
    case c2 => exact ask_field (guard_none rfl) _ (.tmp 30) 0 (dp r) (.pointer (some ⟨r, 0, none⟩)) rfl rfl (by intro k hk; cases hk; rfl) (fun W => by kernel_rfl)
    case c3 => exact ask_load (guard_none rfl) _ (.tmp 31) (.pointer (some ⟨r, 0, none⟩)) fv rfl rfl (by intro k hk; cases hk; rfl) (fun W hW => load_one (fun W => by kernel_rfl) W _ _ (hcell W hW 0 _ rfl))
    case c4 => exact ask_load (guard_none rfl) _ (.tmp 9) (.pointer (some ⟨b0, 0, none⟩)) (.agg cs) rfl rfl (by intro k hk; cases hk; rfl) (fun W hW => (HBx3.out.keep hW).loads _ _ Try.underlying83 rfl (by rw [hcs5]; kernel_rfl))
    case c5 => exact ask_call hG (guard_none rfl) _ _ _ #[fv, .agg cs] (.sat (fun u W => DoEnd w3 fv F1 op u W) (fun _ _ _ h hb => h.below hb)) rfl (by kernel_rfl) rfl rfl (by intro k hk; cases hk; rfl) (fun W hW => by
      have h := dor_any (HD3.out.f1.below hW) (Nat.le_trans HLen1.out (by decide)) ((rise_map (fun y : Value × List UInt8 => y.2)).1 (by show Rise (pr F1); rw [HD3.out.p1]; exact HD3.out.ok.riseN)) (by rw [HD3.out.p1]; exact HD3.out.ok.fitN) HFo2.out (by rw [HOb.out]; exact row_lower0 (HRow3.out.below hW))
      rw [← HCs.out] at h
      exact h.mono fun e w' h => by
        obtain ⟨u, h1, h2⟩ := h
        exact ⟨u, h1, h2.ahead hW, h2.bel⟩)
    case c6 => exact ask_call_by hG (guard_none rfl) _ _ _ (.is (.int .i64 (U : Int))) rfl (by kernel_rfl) (by intro k hk; cases hk; rfl) (fun x W hW hk => by
      obtain ⟨⟨F', hf, hp, -⟩, -⟩ : DoEnd w3 fv F1 op (x 34) W := hk 34 rfl
      have hl : F'.length ≤ 2001 := by
        have h1 := length_do op (pr F1)
        rw [← hp, pr_length, pr_length] at h1
        have := HLen1.out
        omega
      have hb : tot (pr F') ≤ 1099511627776 := by
        rw [hp]
        exact tot_doA (by rw [HD.out.p1]; exact HD.out.ok.fitN) HFo2.out (by rw [pr_length]; exact Nat.le_trans HLen1.out (by decide))
      have h := usedr_any hf (by omega) hb
      rw [hp, ← HU.out] at h
      exact h.mono fun e w' h => ⟨_, h.1, rfl, by rw [← h.2]; exact Below.refl _ _⟩)
    case c7 => exact ask_copy (guard_none rfl) (.tmp 0) (.inl rfl) (by intro k hk; cases hk; rfl)
    case c8 => exact ask_exec (guard_none rfl) (dp r) rfl rfl (by intro k hk; cases hk; rfl) (fun W hW => by kernel_rfl)
    case c9 => exact ask_field (guard_none rfl) _ (.tmp 37) 3 (dp r) (.pointer (some ⟨r, 3, none⟩)) rfl rfl (by intro k hk; cases hk; rfl) (fun W => by kernel_rfl)
    case c10 => exact ask_load (guard_none rfl) _ (.tmp 38) (.pointer (some ⟨r, 3, none⟩)) (.int .i64 s.room) rfl rfl (by intro k hk; cases hk; rfl) (fun W hW => load_one (fun W => by kernel_rfl) W _ _ (hcell W hW 3 _ rfl))
    case c11 => exact ask_read (guard_none rfl) (.tmp 39) (.int .i64 s.room) (.int .i64 R) rfl (by simp [Op.operands, Call.operands]) (by intro k hk; cases hk; rfl) (fun x W hW e => by
      have e2 : x 39 = .int .i64 s.room := e
      have hm : ∀ (ts : Array TypeId) (ty : TypeId), (Builtin.max_ ts ty #[.int .i64 s.room, .int .i64 0]).run Try.prog W = .ok (.int .i64 R) W := fun ts ty => by
        have e3 : (if (0 : Int) > s.room then 0 else s.room) = R := by rw [HRm.out]; omega
        rw [run_max_int2, e3]
      simp [execOp, evalBy, resolve, invoke, builtin, e2, hm, Result.andThen])
    case c12 => exact ask_bin (guard_none rfl) _ _ _ _ _ _ _ _ rfl rfl rfl (by intro k hk; cases hk; rfl) (fun W => by rw [HTt.out]; simp [eqGuard, go_sem])
  · intro a' W hW hd' hs' hf'
    have t0 : a'.tmps.getD 0 undef = dp r := hf' 0 rfl
    have t9 : a'.tmps.getD 9 undef = .pointer (some ⟨b0, 0, none⟩) := hf' 9 rfl
    have t41 : a'.tmps.getD 41 undef = .bool t := hf' 41 rfl
    obtain ⟨us, hus, ha'⟩ := act_open 45 a' hs' hd'
    rw [← hus] at t0 t9 t41
    have el : ((List.range 45).map us).toArray = #[us 0, us 1, us 2, us 3, us 4, us 5, us 6, us 7, us 8, us 9, us 10, us 11, us 12, us 13, us 14, us 15, us 16, us 17, us 18, us 19, us 20, us 21, us 22, us 23, us 24, us 25, us 26, us 27, us 28, us 29, us 30, us 31, us 32, us 33, us 34, us 35, us 36, us 37, us 38, us 39, us 40, us 41, us 42, us 43, us 44] := rfl
    rw [el] at ha'
    subst ha'
    rw [t0, t9, t41]
    have HB4 := Lib.hid (HB3.out.trans (hW.mono HB3.out.size))
    have hbw := HBx3.out.keep hW
    rw [← HCs2.out] at hbw
    have d0 : W.cell? ⟨b0, 0, none⟩ = some (.int .i64 1) := by rw [Blk.cell hbw]; rfl
    have d1 : W.cell? ⟨b0, 1, none⟩ = some (.string N) := by rw [Blk.cell hbw]; rfl
    have d2 : W.cell? ⟨b0, 2, none⟩ = some (.string ⟨#[]⟩) := by rw [Blk.cell hbw]; rfl
    have d3 : W.cell? ⟨b0, 3, none⟩ = some (.int .i64 (A : Int)) := by rw [Blk.cell hbw]; rfl
    have d4 : W.cell? ⟨b0, 4, none⟩ = some (.slice va b.length vc) := by rw [Blk.cell hbw]; rfl
    have hrun := tryr_next (op := op) (v := .slice va b.length vc) HD.out HT.out HLt.out hc HFo2.out HB4.out (by rw [HOb.out]; exact HRow3.out.below hW)
    rw [← HCs.out, ← HCs2.out] at hrun
    have HRun := Lib.hid hrun
    clear hbw
    clear hus t0 t9 t41 hf' hs' hd' hW hG hcell hrun el
    cases t with
    | true =>
      have ey : y = (7, s) := by rw [HRy.out, if_pos (by have := HTt.out; simpa using this.symm)]
      have HEnd : Hid (NextR w S r (c + 1) s W) := Lib.hid ⟨(HSelf.out.disk).same_below HB4.out, OnlyS.of_below HB4.out fun k hk _ => hk⟩
      subst ey
      clear HRun
      go_wp2
      go_ret
      exact ⟨rfl, HEnd.out⟩
    | false =>
      have ey : y = (s.said, s.run op) := by rw [HRy.out, if_neg (by have := HTt.out; simpa using this.symm)]
      subst ey
      go_wp2_with fail
      refine HRun.out.mono ?_
      rintro e w4 ⟨rfl, hnx⟩
      have HNx := Lib.hid hnx
      clear hnx
      go_wp2
      go_ret
      exact ⟨rfl, HNx.out⟩
end Go.Proofs.Ytabddeoeihlnnaa
