/- The bytes of an entry: Put. -/
import Derived.Test.YtgbhfolbkgibfaaLAK
import Derived.Test.YtgbhfolbkgibfaaLAL
import Derived.Deep.Cut
namespace Go.Proofs.Ytgbhfolbkgibfaa
set_option maxRecDepth 20000
open Go.RowKit BinMath CmdMath Reg

theorem load_num (W : World) (p : Addr) (v : Value) (h : W.cell? p = some v) : (Instr.loadAt 31 (.pointer (some p))).run Try.prog W = .ok v W := by
  have hagg : (isAgg 31).run Try.prog W = .ok false W := by kernel_rfl
  simp [Instr.loadAt, Instr.sureAddr, loadVar, Sem.run_bind, hagg, h]
theorem load_int (W : World) (p : Addr) (v : Value) (h : W.cell? p = some v) : (Instr.loadAt 3 (.pointer (some p))).run Try.prog W = .ok v W := by
  have hagg : (isAgg 3).run Try.prog W = .ok false W := by kernel_rfl
  simp [Instr.loadAt, Instr.sureAddr, loadVar, Sem.run_bind, hagg, h]
theorem load_bys (W : World) (p : Addr) (v : Value) (h : W.cell? p = some v) : (Instr.loadAt 34 (.pointer (some p))).run Try.prog W = .ok v W := by
  have hagg : (isAgg 34).run Try.prog W = .ok false W := by kernel_rfl
  simp [Instr.loadAt, Instr.sureAddr, loadVar, Sem.run_bind, hagg, h]
/-- A list of texts in a row that was just laid. -/
def partsF (n : Nat) (ls : List (List UInt8)) : Fact := .sat (fun v W => ∃ g, v = .slice (some ⟨g, 0, none⟩) n n ∧ Parts W g ls) fun _ _ _ ⟨g, hv, hp⟩ hb => ⟨g, hv, hp.below (Nat.le_refl _) hb⟩

theorem range_four : Array.range 4 = #[0, 1, 2, 3] := by apply Array.ext'; simp [List.range_succ]

section
variable {ops : Array Oper} {tab : List (List Nat)} {fin : List Tmp} {G : World → Prop} {f : Tmp → Fact} {i : Nat} {o : Oper}
theorem ask_build_four (hG : ∀ W W', G W → Below W.heap.size W W' → G W') (hg : guardOk ops f o) (s0 s1 s2 s3 : Operand) (l0 l1 l2 l3 : List UInt8)
    (ho : o.op = .buildSlice 58 4 #[(0, s0), (1, s1), (2, s2), (3, s3)]) (h : ∀ x W, G W → Told ops f o x W → Bys W (evalBy x s0) l0 ∧ Bys W (evalBy x s1) l1 ∧ Bys W (evalBy x s2) l2 ∧ Bys W (evalBy x s3) l3)
    (hd : ∀ k, o.dst = some k → f k = partsF 4 [l0, l1, l2, l3]) : Asked Try.prog ops tab fin G f i o := by
  refine ask_grow hG hg fun x W hW hk => ?_
  obtain ⟨h0, h1, h2, h3⟩ := h x W hW hk
  obtain ⟨a0, c0, e0⟩ := h0.shape
  obtain ⟨a1, c1, e1⟩ := h1.shape
  obtain ⟨a2, c2, e2⟩ := h2.shape
  obtain ⟨a3, c3, e3⟩ := h3.shape
  rw [e0] at h0
  rw [e1] at h1
  rw [e2] at h2
  rw [e3] at h3
  have hz : (zeroValue 34).run Try.prog W = .ok (.slice none 0 0) W := by kernel_rfl
  have hs : (Go.sizeOf 34).run Try.prog W = .ok 1 W := by kernel_rfl
  have hr : (Instr.buildSlice 58 4 #[(0, .slice a0 l0.length c0), (1, .slice a1 l1.length c1), (2, .slice a2 l2.length c2), (3, .slice a3 l3.length c3)]).run Try.prog W = .ok (.slice (some ⟨W.heap.size, 0, none⟩) 4 4) (W.alloc (.cells #[.slice a0 l0.length c0, .slice a1 l1.length c1, .slice a2 l2.length c2, .slice a3 l3.length c3] 34)) := by
    simp [Instr.buildSlice, run_underlying Try.underlying58, Result.andThen, hz, hs, Instr.fill, newRow, Value.cells, range_four]
  have hb : Below W.heap.size W (W.alloc (.cells #[.slice a0 l0.length c0, .slice a1 l1.length c1, .slice a2 l2.length c2, .slice a3 l3.length c3] 34)) := (Below.refl _ _).alloc (Nat.le_refl _) _
  refine gives_value (v := .slice (some ⟨W.heap.size, 0, none⟩) 4 4) (w' := W.alloc (.cells #[.slice a0 l0.length c0, .slice a1 l1.length c1, .slice a2 l2.length c2, .slice a3 l3.length c3] 34)) ?_ ⟨hb, fun k hk => by
    rw [hd k hk]
    refine ⟨_, rfl, fun i hi => ?_⟩
    have hi4 : i < 4 := hi
    rcases i with _ | _ | _ | _ | i
    · exact ⟨_, by simp [World.cell?_alloc_at], h0.below (Nat.le_refl _) hb⟩
    · exact ⟨_, by simp [World.cell?_alloc_at], h1.below (Nat.le_refl _) hb⟩
    · exact ⟨_, by simp [World.cell?_alloc_at], h2.below (Nat.le_refl _) hb⟩
    · exact ⟨_, by simp [World.cell?_alloc_at], h3.below (Nat.le_refl _) hb⟩
    · omega⟩
  simp [execOp, ho, hr, e0, e1, e2, e3, Result.andThen]
end

theorem row_low {w : World} {B B' : Nat} {v : Value} {l : List UInt8} (h : Row w B v l) (hB : B' ≤ B) : Row w B' v l := by
  obtain ⟨h1, h2⟩ := h
  refine ⟨h1, h2.elim .inl fun ⟨g, cap, cur, hv, hb, r⟩ => .inr ⟨g, cap, cur, hv, Nat.le_trans hB hb, r⟩⟩

theorem idsL_step (m : List Nat) (i : Nat) (hi : i < m.length) : idsL (m.take (i + 1)) = idsL (m.take i) ++ numL m[i] := by
  rw [List.take_add_one, List.getElem?_eq_getElem hi, idsL_append]
  simp only [Option.toList_some, idsL, List.append_nil]

theorem numL_le (n : Nat) (hn : n < 18446744073709551616) : (numL n).length ≤ 9 := by
  have := nb_le n hn
  rw [numL_length]; omega

theorem idsL_len : ∀ (m : List Nat), (∀ x ∈ m, x < 18446744073709551616) → (idsL m).length ≤ 9 * m.length
  | [], _ => by simp [idsL]
  | x :: r, h => by
    have := idsL_len r fun y hy => h y (List.mem_cons_of_mem _ hy)
    have := numL_le x (h x (by simp))
    simp only [idsL, List.length_append, List.length_cons]
    omega

theorem idsL_take_len (m : List Nat) (i : Nat) (h : ∀ x ∈ m, x < 18446744073709551616) (hm : m.length ≤ 7) : (idsL (m.take i)).length ≤ 63 := by
  have := idsL_len (m.take i) fun x hx => h x (List.mem_of_mem_take hx)
  have h2 : (m.take i).length ≤ 7 := by rw [List.length_take]; omega
  omega

theorem putL_one (t : Nat) (c s : Nat) (d : List UInt8) (m : List Nat) : putL ⟨t, 1, c, s, d, m⟩ = numL t ++ [1] := by simp [putL, tailL]
theorem putL_two (t : Nat) (c s : Nat) (d : List UInt8) (m : List Nat) : putL ⟨t, 2, c, s, d, m⟩ = [numL t ++ [2], numL c, numL s, rawL d].flatten := by simp [putL, tailL, rawL]
theorem putL_three (t : Nat) (c s : Nat) (d : List UInt8) (m : List Nat) : putL ⟨t, 3, c, s, d, m⟩ = (numL t ++ [3] ++ numL m.length) ++ idsL m := by simp [putL, tailL]
theorem formed_len {t : Nat} {c s : Nat} {d : List UInt8} {m : List Nat} (h : formed ⟨t, 2, c, s, d, m⟩ = true) : d.length ≤ 64 := by
  simp only [formed, Bool.and_eq_true] at h
  have := h.2
  simp at this
  exact this.1
theorem formed_mem {t : Nat} {c s : Nat} {d : List UInt8} {m : List Nat} (h : formed ⟨t, 3, c, s, d, m⟩ = true) : m.length ≤ 7 := by
  simp only [formed, Bool.and_eq_true] at h
  have := h.2
  simp at this
  exact (memOk_len this.2).2

set_option maxHeartbeats 4000000 in
set_option maxRecDepth 100000 in
theorem put_1 (t c s : Nat) (d : List UInt8) (m : List Nat) (a b : Option Addr) (ca cb : Nat) (w : World) (he : Has w ⟨t, 1, c, s, d, m⟩ a ca b cb) (hf : formed ⟨t, 1, c, s, d, m⟩ = true) :
    Calls Try.prog 85 #[.agg (entC ⟨t, 1, c, s, d, m⟩ a ca b cb)] w fun r w' => ∃ v, r = .returned (.tuple #[v, .int .i64 0]) ∧ Row w' w.heap.size v (putL ⟨t, 1, c, s, d, m⟩) ∧ Below w.heap.size w w' := by
  have b1 : Below w.heap.size w (w.alloc (.cells (entC ⟨t, 1, c, s, d, m⟩ a ca b cb) 62)) := (Below.refl _ _).alloc (Nat.le_refl _) _
  have hF := formed_any ⟨t, 1, c, s, d, m⟩ a b ca cb _ (he.below (Nat.le_refl _) b1)
  rw [hf] at hF
  obtain ⟨nd, hnd⟩ : ∃ nd, nd = d.length := ⟨_, rfl⟩
  obtain ⟨nm, hnm⟩ : ∃ nm, nm = m.length := ⟨_, rfl⟩
  have HOk := Lib.hid he.ok
  simp only [entC] at hF b1 ⊢
  rw [← hnd, ← hnm] at hF b1 ⊢
  have HF := Lib.hid hF
  have HB1 := Lib.hid b1
  clear he hf hF b1 hnd hnm
  go_enter Try.func85, Try.ntmps85
  go_wp2_with fail
  refine HF.out.mono ?_
  rintro r w2 ⟨rfl, hb⟩
  have EB := (Blk.new w 62 #[.int .u64 (t : Int), .int .i64 1, .int .u64 (c : Int), .int .u64 (s : Int), .slice a nd ca, .slice b nm cb]).keep hb
  obtain ⟨g, hg⟩ : ∃ g, g = w.heap.size := ⟨_, rfl⟩
  have HG := Lib.hid hg
  have HB2 : Hid (Below g w w2) := by rw [hg]; exact HB1.out.trans (hb.mono HB1.out.size)
  have hgw : g ≤ w2.heap.size := by rw [hg]; exact Nat.le_trans HB1.out.size hb.size
  clear hb HF
  rw [← hg] at EB
  have ht64 := HOk.out.t
  clear hg
  go_upto_region 3 with fail
  rw [← HG.out]
  have hG : ∀ W W' : World, Below w2.heap.size w2 W → Below W.heap.size W W' → Below w2.heap.size w2 W' := fun W W' hW hb => hW.trans (hb.mono hW.size)
  refine region_tails_by 7 [(10, .is (.pointer (some ⟨g, 0, none⟩))), (11, .is (.int .u64 (t : Int))), (12, .row w2.heap.size (numL t)), (13, .is (.pointer (some ⟨g, 1, none⟩))), (14, .is (.int .i64 1)), (15, .is (bv 1)), (16, .bys [1])] [1, 12, 16] (fun W => Below w2.heap.size w2 W) (by kernel_rfl) (by kernel_rfl) (by kernel_rfl) (by kernel_rfl) (by kernel_rfl) (by decide) (by kernel_rfl) (by kernel_rfl) ((Below.refl _ _).drew) ?_ ?_
  · refine ⟨?c0, ?c1, ?c2, ?c3, ?c4, ?c5, ?c6, trivial⟩
    case c0 => exact ask_field (guard_none rfl) _ (.tmp 1) 0 (.pointer (some ⟨g, 0, none⟩)) (.pointer (some ⟨g, 0, none⟩)) rfl rfl (by intro k hk; cases hk; rfl) (fun W => by kernel_rfl)
    case c1 => exact ask_load (guard_none rfl) _ (.tmp 10) (.pointer (some ⟨g, 0, none⟩)) (.int .u64 (t : Int)) rfl rfl (by intro k hk; cases hk; rfl) (fun W hW => load_num W _ _ (by rw [hW.cell (p := ⟨g, 0, none⟩) EB.lt, EB.cell]; rfl))
    case c2 => exact ask_call hG (guard_none rfl) _ _ _ #[.int .u64 (t : Int)] (.row w2.heap.size (numL t)) rfl (by kernel_rfl) rfl rfl (by intro k hk; cases hk; rfl) (fun W hW => (num_any t W ht64).mono fun e w' h => by obtain ⟨v, h1, h2, h3⟩ := h; exact ⟨v, h1, row_low h2 hW.size, h3⟩)
    case c3 => exact ask_field (guard_none rfl) _ (.tmp 1) 1 (.pointer (some ⟨g, 0, none⟩)) (.pointer (some ⟨g, 1, none⟩)) rfl rfl (by intro k hk; cases hk; rfl) (fun W => by kernel_rfl)
    case c4 => exact ask_load (guard_none rfl) _ (.tmp 13) (.pointer (some ⟨g, 1, none⟩)) (.int .i64 1) rfl rfl (by intro k hk; cases hk; rfl) (fun W hW => load_int W _ _ (by rw [hW.cell (p := ⟨g, 1, none⟩) EB.lt, EB.cell]; rfl))
    case c5 => exact ask_exec (guard_none rfl) (bv 1) rfl rfl (by intro k hk; cases hk; rfl) (fun W hW => by kernel_rfl)
    case c6 => exact ask_build_one hG (guard_none rfl) (.tmp 15) 1 rfl rfl (by intro k hk; cases hk; rfl)
  intro af w3 hW hd' hs' hf'
  have t1 : af.tmps.getD 1 undef = (.pointer (some ⟨g, 0, none⟩)) := hf' 1 rfl
  have h4 : Row w3 w2.heap.size (af.tmps.getD 12 undef) (numL t) := hf' 12 rfl
  have h6 : Bys w3 (af.tmps.getD 16 undef) [1] := hf' 16 rfl
  obtain ⟨us, hus, haf⟩ := act_open 56 af hs' hd'
  rw [← hus] at t1 h4 h6
  have el : ((List.range 56).map us).toArray = #[us 0, us 1, us 2, us 3, us 4, us 5, us 6, us 7, us 8, us 9, us 10, us 11, us 12, us 13, us 14, us 15, us 16, us 17, us 18, us 19, us 20, us 21, us 22, us 23, us 24, us 25, us 26, us 27, us 28, us 29, us 30, us 31, us 32, us 33, us 34, us 35, us 36, us 37, us 38, us 39, us 40, us 41, us 42, us 43, us 44, us 45, us 46, us 47, us 48, us 49, us 50, us 51, us 52, us 53, us 54, us 55] := rfl
  rw [el] at haf
  subst haf
  rw [t1]
  have A4 := append_bys (B := g) (Nat.le_trans hgw hW.size) (row_low h4 hgw) h6 (by have := numL_le t ht64; simp only [List.length_cons, List.length_nil]; omega)
  have HR3 := Lib.hid (row_low h4 hgw)
  have EBw := EB.keep hW
  have HA4 := Lib.hid A4
  have HBw := Lib.hid (HB2.out.trans (hW.mono hgw))
  have hgw3 : g ≤ w3.heap.size := Nat.le_trans hgw hW.size
  obtain ⟨va, hva⟩ : ∃ va, va = us 12 := ⟨_, rfl⟩
  obtain ⟨vb, hvb⟩ : ∃ vb, vb = us 16 := ⟨_, rfl⟩
  rw [← hva, ← hvb] at HA4 ⊢
  rw [← hva] at HR3
  clear hus t1 el hf' hs' hd' hW h4 h6 hG EB hgw HB2 hva hvb A4
  simp only [List.drop_succ_cons, List.drop_zero]
  go_wp2_with (at_builtin; refine wpList_append_by rfl _ _ 34 rfl _ _ rfl rfl _ HA4.out ?_; rintro v4 w4 ⟨hr, hgr⟩; (have EB3 := EBw.grown HR3.out (by decide) hgr); (have k1 : w4.cell? ⟨g, 1, none⟩ = some (.int .i64 1) := by rw [EB3.cell]; rfl); (have hg3 : g ≤ w4.heap.size := Nat.le_trans hgw3 hgr.size); (have HR4 := Lib.hid hr); (have HB3 := Lib.hid (HBw.out.grown hgr hgw3 fun k hk => (World.ownsRow.lt HR3.out k hk).1)); clear hr hgr)
  rw [putL_one, ← HG.out]
  exact bodyPost_ret (v := .tuple #[v4, .int .i64 0]) (by simp [results, Try.results85, go_sem]) rfl ⟨_, rfl, HR4.out, HB3.out⟩

set_option maxHeartbeats 4000000 in
set_option maxRecDepth 100000 in
theorem put_2 (t c s : Nat) (d : List UInt8) (m : List Nat) (a b : Option Addr) (ca cb : Nat) (w : World) (he : Has w ⟨t, 2, c, s, d, m⟩ a ca b cb) (hf : formed ⟨t, 2, c, s, d, m⟩ = true) :
    Calls Try.prog 85 #[.agg (entC ⟨t, 2, c, s, d, m⟩ a ca b cb)] w fun r w' => ∃ v, r = .returned (.tuple #[v, .int .i64 0]) ∧ Row w' w.heap.size v (putL ⟨t, 2, c, s, d, m⟩) ∧ Below w.heap.size w w' := by
  have b1 : Below w.heap.size w (w.alloc (.cells (entC ⟨t, 2, c, s, d, m⟩ a ca b cb) 62)) := (Below.refl _ _).alloc (Nat.le_refl _) _
  have hF := formed_any ⟨t, 2, c, s, d, m⟩ a b ca cb _ (he.below (Nat.le_refl _) b1)
  rw [hf] at hF
  obtain ⟨nd, hnd⟩ : ∃ nd, nd = d.length := ⟨_, rfl⟩
  obtain ⟨nm, hnm⟩ : ∃ nm, nm = m.length := ⟨_, rfl⟩
  have hdl := he.dl
  have HOk := Lib.hid he.ok
  have HD := Lib.hid he.d
  have h64 := formed_len hf
  have HND := Lib.hid hnd
  simp only [entC] at hF b1 hdl ⊢
  rw [← hnd, ← hnm] at hF b1 ⊢
  have HF := Lib.hid hF
  have HB1 := Lib.hid b1
  clear he hf hF b1 hnd hnm
  go_enter Try.func85, Try.ntmps85
  go_wp2_with fail
  refine HF.out.mono ?_
  rintro r w2 ⟨rfl, hb⟩
  have EB := (Blk.new w 62 #[.int .u64 (t : Int), .int .i64 2, .int .u64 (c : Int), .int .u64 (s : Int), .slice a nd ca, .slice b nm cb]).keep hb
  obtain ⟨g, hg⟩ : ∃ g, g = w.heap.size := ⟨_, rfl⟩
  have HG := Lib.hid hg
  have HB2 : Hid (Below g w w2) := by rw [hg]; exact HB1.out.trans (hb.mono HB1.out.size)
  have hgw : g ≤ w2.heap.size := by rw [hg]; exact Nat.le_trans HB1.out.size hb.size
  clear hb HF
  rw [← hg] at EB
  have ht64 := HOk.out.t
  clear hg
  go_upto_region 3 with fail
  rw [← HG.out]
  have hG : ∀ W W' : World, Below w2.heap.size w2 W → Below W.heap.size W W' → Below w2.heap.size w2 W' := fun W W' hW hb => hW.trans (hb.mono hW.size)
  refine region_tails_by 7 [(10, .is (.pointer (some ⟨g, 0, none⟩))), (11, .is (.int .u64 (t : Int))), (12, .row w2.heap.size (numL t)), (13, .is (.pointer (some ⟨g, 1, none⟩))), (14, .is (.int .i64 2)), (15, .is (bv 2)), (16, .bys [2])] [1, 12, 16] (fun W => Below w2.heap.size w2 W) (by kernel_rfl) (by kernel_rfl) (by kernel_rfl) (by kernel_rfl) (by kernel_rfl) (by decide) (by kernel_rfl) (by kernel_rfl) ((Below.refl _ _).drew) ?_ ?_
  · refine ⟨?c0, ?c1, ?c2, ?c3, ?c4, ?c5, ?c6, trivial⟩
    case c0 => exact ask_field (guard_none rfl) _ (.tmp 1) 0 (.pointer (some ⟨g, 0, none⟩)) (.pointer (some ⟨g, 0, none⟩)) rfl rfl (by intro k hk; cases hk; rfl) (fun W => by kernel_rfl)
    case c1 => exact ask_load (guard_none rfl) _ (.tmp 10) (.pointer (some ⟨g, 0, none⟩)) (.int .u64 (t : Int)) rfl rfl (by intro k hk; cases hk; rfl) (fun W hW => load_num W _ _ (by rw [hW.cell (p := ⟨g, 0, none⟩) EB.lt, EB.cell]; rfl))
    case c2 => exact ask_call hG (guard_none rfl) _ _ _ #[.int .u64 (t : Int)] (.row w2.heap.size (numL t)) rfl (by kernel_rfl) rfl rfl (by intro k hk; cases hk; rfl) (fun W hW => (num_any t W ht64).mono fun e w' h => by obtain ⟨v, h1, h2, h3⟩ := h; exact ⟨v, h1, row_low h2 hW.size, h3⟩)
    case c3 => exact ask_field (guard_none rfl) _ (.tmp 1) 1 (.pointer (some ⟨g, 0, none⟩)) (.pointer (some ⟨g, 1, none⟩)) rfl rfl (by intro k hk; cases hk; rfl) (fun W => by kernel_rfl)
    case c4 => exact ask_load (guard_none rfl) _ (.tmp 13) (.pointer (some ⟨g, 1, none⟩)) (.int .i64 2) rfl rfl (by intro k hk; cases hk; rfl) (fun W hW => load_int W _ _ (by rw [hW.cell (p := ⟨g, 1, none⟩) EB.lt, EB.cell]; rfl))
    case c5 => exact ask_exec (guard_none rfl) (bv 2) rfl rfl (by intro k hk; cases hk; rfl) (fun W hW => by kernel_rfl)
    case c6 => exact ask_build_one hG (guard_none rfl) (.tmp 15) 2 rfl rfl (by intro k hk; cases hk; rfl)
  intro af w3 hW hd' hs' hf'
  have t1 : af.tmps.getD 1 undef = (.pointer (some ⟨g, 0, none⟩)) := hf' 1 rfl
  have h4 : Row w3 w2.heap.size (af.tmps.getD 12 undef) (numL t) := hf' 12 rfl
  have h6 : Bys w3 (af.tmps.getD 16 undef) [2] := hf' 16 rfl
  obtain ⟨us, hus, haf⟩ := act_open 56 af hs' hd'
  rw [← hus] at t1 h4 h6
  have el : ((List.range 56).map us).toArray = #[us 0, us 1, us 2, us 3, us 4, us 5, us 6, us 7, us 8, us 9, us 10, us 11, us 12, us 13, us 14, us 15, us 16, us 17, us 18, us 19, us 20, us 21, us 22, us 23, us 24, us 25, us 26, us 27, us 28, us 29, us 30, us 31, us 32, us 33, us 34, us 35, us 36, us 37, us 38, us 39, us 40, us 41, us 42, us 43, us 44, us 45, us 46, us 47, us 48, us 49, us 50, us 51, us 52, us 53, us 54, us 55] := rfl
  rw [el] at haf
  subst haf
  rw [t1]
  have A4 := append_bys (B := g) (Nat.le_trans hgw hW.size) (row_low h4 hgw) h6 (by have := numL_le t ht64; simp only [List.length_cons, List.length_nil]; omega)
  have HR3 := Lib.hid (row_low h4 hgw)
  have EBw := EB.keep hW
  have HA4 := Lib.hid A4
  have HBw := Lib.hid (HB2.out.trans (hW.mono hgw))
  have hgw3 : g ≤ w3.heap.size := Nat.le_trans hgw hW.size
  obtain ⟨va, hva⟩ : ∃ va, va = us 12 := ⟨_, rfl⟩
  obtain ⟨vb, hvb⟩ : ∃ vb, vb = us 16 := ⟨_, rfl⟩
  rw [← hva, ← hvb] at HA4 ⊢
  rw [← hva] at HR3
  clear hus t1 el hf' hs' hd' hW h4 h6 hG EB hgw HB2 hva hvb A4
  simp only [List.drop_succ_cons, List.drop_zero]
  go_wp2_with (at_builtin; refine wpList_append_by rfl _ _ 34 rfl _ _ rfl rfl _ HA4.out ?_; rintro v4 w4 ⟨hr, hgr⟩; (have EB3 := EBw.grown HR3.out (by decide) hgr); (have k1 : w4.cell? ⟨g, 1, none⟩ = some (.int .i64 2) := by rw [EB3.cell]; rfl); (have hg3 : g ≤ w4.heap.size := Nat.le_trans hgw3 hgr.size); (have HR4 := Lib.hid hr); (have HB3 := Lib.hid (HBw.out.grown hgr hgw3 fun k hk => (World.ownsRow.lt HR3.out k hk).1)); clear hr hgr)
  have hc64 := HOk.out.c
  have hs64 := HOk.out.s
  go_upto_region 6 with fail
  have hG : ∀ W W' : World, Below w4.heap.size w4 W → Below W.heap.size W W' → Below w4.heap.size w4 W' := fun W W' hW hb => hW.trans (hb.mono hW.size)
  have HDd : Hid (∀ W, Below w4.heap.size w4 W → Bys W (.slice a nd ca) d) := Lib.hid fun W hW => by
    rw [HND.out]
    exact HD.out.below (Nat.le_refl _) ((HB3.out.mono (Nat.le_of_eq HG.out.symm)).trans (hW.mono (HB3.out.mono (Nat.le_of_eq HG.out.symm)).size))
  have HLen : Hid ([(numL t ++ [2]), numL c, numL s, rawL d].flatten.length ≤ 1099511627776) := Lib.hid (by
    have h1 := numL_le t ht64
    have h2 := numL_le c hc64
    have h3 := numL_le s hs64
    have h4 := numL_le d.length (by omega)
    simp only [rawL, List.flatten_cons, List.flatten_nil, List.length_append, List.length_cons, List.length_nil]
    omega)
  refine region_last_by 12 _ _ rfl [(22, .is v4), (23, .is (.pointer (some ⟨g, 2, none⟩))), (24, .is (.int .u64 (c : Int))), (25, .bys (numL c)), (26, .is (.pointer (some ⟨g, 3, none⟩))), (27, .is (.int .u64 (s : Int))), (28, .bys (numL s)), (29, .is (.pointer (some ⟨g, 4, none⟩))), (30, .is (.slice a nd ca)), (31, .bys (rawL d)), (32, partsF 4 [(numL t ++ [2]), numL c, numL s, rawL d]), (33, .row g [(numL t ++ [2]), numL c, numL s, rawL d].flatten)] [19, 33] (fun W => Below w4.heap.size w4 W) (by kernel_rfl) (by kernel_rfl) (by kernel_rfl) (by kernel_rfl) (fun k fk hk => .inl (by
      by_cases h4 : k = 4
      · subst h4; cases hk
      · exact lookup_all 4 (by kernel_rfl) hk h4)) rfl rfl rfl (by kernel_rfl) ((Below.refl _ _).drew) ?_ ?_
  · refine ⟨?c0, ?c1, ?c2, ?c3, ?c4, ?c5, ?c6, ?c7, ?c8, ?c9, ?c10, ?c11, trivial⟩
    case c0 => exact ask_copy (guard_none rfl) (.tmp 4) (.inl rfl) (by intro k hk; cases hk; rfl)
    case c1 => exact ask_field (guard_none rfl) _ (.tmp 1) 2 (.pointer (some ⟨g, 0, none⟩)) (.pointer (some ⟨g, 2, none⟩)) rfl rfl (by intro k hk; cases hk; rfl) (fun W => by kernel_rfl)
    case c2 => exact ask_load (guard_none rfl) _ (.tmp 23) (.pointer (some ⟨g, 2, none⟩)) (.int .u64 (c : Int)) rfl rfl (by intro k hk; cases hk; rfl) (fun W hW => load_num W _ _ (by rw [hW.cell (p := ⟨g, 2, none⟩) EB3.lt, EB3.cell]; rfl))
    case c3 => exact ask_call hG (guard_none rfl) _ _ _ #[.int .u64 (c : Int)] (.bys (numL c)) rfl (by kernel_rfl) rfl rfl (by intro k hk; cases hk; rfl) (fun W hW => (num_any c W hc64).mono fun e w' h => by obtain ⟨v, h1, h2, h3⟩ := h; exact ⟨v, h1, h2.bys, h3⟩)
    case c4 => exact ask_field (guard_none rfl) _ (.tmp 1) 3 (.pointer (some ⟨g, 0, none⟩)) (.pointer (some ⟨g, 3, none⟩)) rfl rfl (by intro k hk; cases hk; rfl) (fun W => by kernel_rfl)
    case c5 => exact ask_load (guard_none rfl) _ (.tmp 26) (.pointer (some ⟨g, 3, none⟩)) (.int .u64 (s : Int)) rfl rfl (by intro k hk; cases hk; rfl) (fun W hW => load_num W _ _ (by rw [hW.cell (p := ⟨g, 3, none⟩) EB3.lt, EB3.cell]; rfl))
    case c6 => exact ask_call hG (guard_none rfl) _ _ _ #[.int .u64 (s : Int)] (.bys (numL s)) rfl (by kernel_rfl) rfl rfl (by intro k hk; cases hk; rfl) (fun W hW => (num_any s W hs64).mono fun e w' h => by obtain ⟨v, h1, h2, h3⟩ := h; exact ⟨v, h1, h2.bys, h3⟩)
    case c7 => exact ask_field (guard_none rfl) _ (.tmp 1) 4 (.pointer (some ⟨g, 0, none⟩)) (.pointer (some ⟨g, 4, none⟩)) rfl rfl (by intro k hk; cases hk; rfl) (fun W => by kernel_rfl)
    case c8 => exact ask_load (guard_none rfl) _ (.tmp 29) (.pointer (some ⟨g, 4, none⟩)) (.slice a nd ca) rfl rfl (by intro k hk; cases hk; rfl) (fun W hW => load_bys W _ _ (by rw [hW.cell (p := ⟨g, 4, none⟩) EB3.lt, EB3.cell]; rfl))
    case c9 => exact ask_call hG (guard_none rfl) _ _ _ #[.slice a nd ca] (.bys (rawL d)) rfl (by kernel_rfl) rfl rfl (by intro k hk; cases hk; rfl) (fun W hW => (raw_any _ d W (HDd.out W hW) hdl).mono fun e w' h => by obtain ⟨v, h1, h2, h3⟩ := h; exact ⟨v, h1, h2.bys, h3⟩)
    case c10 => exact ask_build_four hG (guard_none rfl) (.tmp 22) (.tmp 25) (.tmp 28) (.tmp 31) (numL t ++ [2]) (numL c) (numL s) (rawL d) rfl (fun x W hW hk => ⟨by rw [show evalBy x (.tmp 22) = v4 from hk 22 rfl]; exact HR4.out.bys.below (Nat.le_refl _) hW, hk 25 rfl, hk 28 rfl, hk 31 rfl⟩) (by intro k hk; cases hk; rfl)
    case c11 => exact ask_call_by hG (guard_none rfl) _ _ _ (.row g [(numL t ++ [2]), numL c, numL s, rawL d].flatten) rfl (by kernel_rfl) (by intro k hk; cases hk; rfl) (fun x W hW hk => by
        obtain ⟨h, hv, hp⟩ := hk 32 rfl
        show Calls _ _ #[x 32] W _
        rw [hv]
        exact (concat_any h 4 [(numL t ++ [2]), numL c, numL s, rawL d] W hp rfl (by omega) HLen.out).mono fun e w' ⟨v, h1, h2, h3⟩ => ⟨v, h1, row_low h2 (Nat.le_trans hg3 hW.size), h3⟩)
  intro af w5 hW hd' hs' hf'
  have h33 : Row w5 g (af.tmps.getD 33 undef) [(numL t ++ [2]), numL c, numL s, rawL d].flatten := hf' 33 rfl
  have t19 : af.tmps.getD 19 undef = .int .i64 2 := hf' 19 rfl
  obtain ⟨us, hus, haf⟩ := act_open 56 af hs' hd'
  rw [← hus] at h33 t19
  have el : ((List.range 56).map us).toArray = #[us 0, us 1, us 2, us 3, us 4, us 5, us 6, us 7, us 8, us 9, us 10, us 11, us 12, us 13, us 14, us 15, us 16, us 17, us 18, us 19, us 20, us 21, us 22, us 23, us 24, us 25, us 26, us 27, us 28, us 29, us 30, us 31, us 32, us 33, us 34, us 35, us 36, us 37, us 38, us 39, us 40, us 41, us 42, us 43, us 44, us 45, us 46, us 47, us 48, us 49, us 50, us 51, us 52, us 53, us 54, us 55] := rfl
  rw [el] at haf
  subst haf
  rw [t19]
  have HR6 := Lib.hid h33
  have HB6 := Lib.hid (HB3.out.trans (hW.mono hg3))
  clear hus t19 el hf' hs' hd' hW h33 hG
  go_wp2
  rw [putL_two, ← HG.out]
  exact bodyPost_ret (v := .tuple #[us 33, .int .i64 0]) (by simp [results, Try.results85, go_sem]) rfl ⟨_, rfl, HR6.out, HB6.out⟩

set_option maxHeartbeats 4000000 in
set_option maxRecDepth 100000 in
theorem put_3 (t c s : Nat) (d : List UInt8) (m : List Nat) (a b : Option Addr) (ca cb : Nat) (w : World) (he : Has w ⟨t, 3, c, s, d, m⟩ a ca b cb) (hf : formed ⟨t, 3, c, s, d, m⟩ = true) :
    Calls Try.prog 85 #[.agg (entC ⟨t, 3, c, s, d, m⟩ a ca b cb)] w fun r w' => ∃ v, r = .returned (.tuple #[v, .int .i64 0]) ∧ Row w' w.heap.size v (putL ⟨t, 3, c, s, d, m⟩) ∧ Below w.heap.size w w' := by
  have b1 : Below w.heap.size w (w.alloc (.cells (entC ⟨t, 3, c, s, d, m⟩ a ca b cb) 62)) := (Below.refl _ _).alloc (Nat.le_refl _) _
  have hF := formed_any ⟨t, 3, c, s, d, m⟩ a b ca cb _ (he.below (Nat.le_refl _) b1)
  rw [hf] at hF
  obtain ⟨nd, hnd⟩ : ∃ nd, nd = d.length := ⟨_, rfl⟩
  obtain ⟨nm, hnm⟩ : ∃ nm, nm = m.length := ⟨_, rfl⟩
  have hml := he.ml
  have HOk := Lib.hid he.ok
  have HM := Lib.hid he.m
  have h7 := formed_mem hf
  have HNM := Lib.hid hnm
  simp only [entC] at hF b1 hml ⊢
  rw [← hnd, ← hnm] at hF b1 ⊢
  have HF := Lib.hid hF
  have HB1 := Lib.hid b1
  clear he hf hF b1 hnd hnm
  go_enter Try.func85, Try.ntmps85
  go_wp2_with fail
  refine HF.out.mono ?_
  rintro r w2 ⟨rfl, hb⟩
  have EB := (Blk.new w 62 #[.int .u64 (t : Int), .int .i64 3, .int .u64 (c : Int), .int .u64 (s : Int), .slice a nd ca, .slice b nm cb]).keep hb
  obtain ⟨g, hg⟩ : ∃ g, g = w.heap.size := ⟨_, rfl⟩
  have HG := Lib.hid hg
  have HB2 : Hid (Below g w w2) := by rw [hg]; exact HB1.out.trans (hb.mono HB1.out.size)
  have hgw : g ≤ w2.heap.size := by rw [hg]; exact Nat.le_trans HB1.out.size hb.size
  clear hb HF
  rw [← hg] at EB
  have ht64 := HOk.out.t
  clear hg
  go_upto_region 3 with fail
  rw [← HG.out]
  have hG : ∀ W W' : World, Below w2.heap.size w2 W → Below W.heap.size W W' → Below w2.heap.size w2 W' := fun W W' hW hb => hW.trans (hb.mono hW.size)
  refine region_tails_by 7 [(10, .is (.pointer (some ⟨g, 0, none⟩))), (11, .is (.int .u64 (t : Int))), (12, .row w2.heap.size (numL t)), (13, .is (.pointer (some ⟨g, 1, none⟩))), (14, .is (.int .i64 3)), (15, .is (bv 3)), (16, .bys [3])] [1, 12, 16] (fun W => Below w2.heap.size w2 W) (by kernel_rfl) (by kernel_rfl) (by kernel_rfl) (by kernel_rfl) (by kernel_rfl) (by decide) (by kernel_rfl) (by kernel_rfl) ((Below.refl _ _).drew) ?_ ?_
  · refine ⟨?c0, ?c1, ?c2, ?c3, ?c4, ?c5, ?c6, trivial⟩
    case c0 => exact ask_field (guard_none rfl) _ (.tmp 1) 0 (.pointer (some ⟨g, 0, none⟩)) (.pointer (some ⟨g, 0, none⟩)) rfl rfl (by intro k hk; cases hk; rfl) (fun W => by kernel_rfl)
    case c1 => exact ask_load (guard_none rfl) _ (.tmp 10) (.pointer (some ⟨g, 0, none⟩)) (.int .u64 (t : Int)) rfl rfl (by intro k hk; cases hk; rfl) (fun W hW => load_num W _ _ (by rw [hW.cell (p := ⟨g, 0, none⟩) EB.lt, EB.cell]; rfl))
    case c2 => exact ask_call hG (guard_none rfl) _ _ _ #[.int .u64 (t : Int)] (.row w2.heap.size (numL t)) rfl (by kernel_rfl) rfl rfl (by intro k hk; cases hk; rfl) (fun W hW => (num_any t W ht64).mono fun e w' h => by obtain ⟨v, h1, h2, h3⟩ := h; exact ⟨v, h1, row_low h2 hW.size, h3⟩)
    case c3 => exact ask_field (guard_none rfl) _ (.tmp 1) 1 (.pointer (some ⟨g, 0, none⟩)) (.pointer (some ⟨g, 1, none⟩)) rfl rfl (by intro k hk; cases hk; rfl) (fun W => by kernel_rfl)
    case c4 => exact ask_load (guard_none rfl) _ (.tmp 13) (.pointer (some ⟨g, 1, none⟩)) (.int .i64 3) rfl rfl (by intro k hk; cases hk; rfl) (fun W hW => load_int W _ _ (by rw [hW.cell (p := ⟨g, 1, none⟩) EB.lt, EB.cell]; rfl))
    case c5 => exact ask_exec (guard_none rfl) (bv 3) rfl rfl (by intro k hk; cases hk; rfl) (fun W hW => by kernel_rfl)
    case c6 => exact ask_build_one hG (guard_none rfl) (.tmp 15) 3 rfl rfl (by intro k hk; cases hk; rfl)
  intro af w3 hW hd' hs' hf'
  have t1 : af.tmps.getD 1 undef = (.pointer (some ⟨g, 0, none⟩)) := hf' 1 rfl
  have h4 : Row w3 w2.heap.size (af.tmps.getD 12 undef) (numL t) := hf' 12 rfl
  have h6 : Bys w3 (af.tmps.getD 16 undef) [3] := hf' 16 rfl
  obtain ⟨us, hus, haf⟩ := act_open 56 af hs' hd'
  rw [← hus] at t1 h4 h6
  have el : ((List.range 56).map us).toArray = #[us 0, us 1, us 2, us 3, us 4, us 5, us 6, us 7, us 8, us 9, us 10, us 11, us 12, us 13, us 14, us 15, us 16, us 17, us 18, us 19, us 20, us 21, us 22, us 23, us 24, us 25, us 26, us 27, us 28, us 29, us 30, us 31, us 32, us 33, us 34, us 35, us 36, us 37, us 38, us 39, us 40, us 41, us 42, us 43, us 44, us 45, us 46, us 47, us 48, us 49, us 50, us 51, us 52, us 53, us 54, us 55] := rfl
  rw [el] at haf
  subst haf
  rw [t1]
  have A4 := append_bys (B := g) (Nat.le_trans hgw hW.size) (row_low h4 hgw) h6 (by have := numL_le t ht64; simp only [List.length_cons, List.length_nil]; omega)
  have HR3 := Lib.hid (row_low h4 hgw)
  have EBw := EB.keep hW
  have HA4 := Lib.hid A4
  have HBw := Lib.hid (HB2.out.trans (hW.mono hgw))
  have hgw3 : g ≤ w3.heap.size := Nat.le_trans hgw hW.size
  obtain ⟨va, hva⟩ : ∃ va, va = us 12 := ⟨_, rfl⟩
  obtain ⟨vb, hvb⟩ : ∃ vb, vb = us 16 := ⟨_, rfl⟩
  rw [← hva, ← hvb] at HA4 ⊢
  rw [← hva] at HR3
  clear hus t1 el hf' hs' hd' hW h4 h6 hG EB hgw HB2 hva hvb A4
  have h7' : nm ≤ 7 := by rw [HNM.out]; exact h7
  have hcv := conv_len nm (by omega)
  simp only [List.drop_succ_cons, List.drop_zero]
  go_wp2_with (at_builtin; refine wpList_append_by rfl _ _ 34 rfl _ _ rfl rfl _ HA4.out ?_; rintro v4 w4 ⟨hr, hgr⟩; (have EB3 := EBw.grown HR3.out (by decide) hgr); (have k1 : w4.cell? ⟨g, 1, none⟩ = some (.int .i64 3) := by rw [EB3.cell]; rfl); (have k5 : w4.cell? ⟨g, 5, none⟩ = some (.slice b nm cb) := by rw [EB3.cell]; rfl); (have hg3 : g ≤ w4.heap.size := Nat.le_trans hgw3 hgr.size); (have HR4 := Lib.hid hr); (have HB3 := Lib.hid (HBw.out.grown hgr hgw3 fun k hk => (World.ownsRow.lt HR3.out k hk).1)); clear hr hgr)
  have h1 := numL_le t ht64
  have h2 := numL_le nm (by omega)
  have HM2 := Lib.hid HM.out.at
  have HMl := Lib.hid HOk.out.m
  have HI := Lib.hid (fun i => idsL_take_len m i HMl.out h7)
  clear HM
  refine (num_any nm _ (by omega)).mono ?_
  rintro r wa ⟨u0, rfl, hr, hb⟩
  have EBa := EB3.keep hb
  have A0 := append_bys (B := g) (Nat.le_trans hg3 hb.size) (HR4.out.below hb) hr.bys (by simp only [List.length_append, List.length_cons, List.length_nil]; omega)
  have HA0 := Lib.hid A0
  have HRa := Lib.hid (HR4.out.below hb)
  have HBa := Lib.hid (HB3.out.trans (hb.mono hg3))
  clear hr hb A0 k5 k1
  go_wp2_with (at_builtin; refine wpList_append_by rfl _ _ 34 rfl _ _ rfl rfl _ HA0.out ?_; rintro v5 wb ⟨hr, hgr⟩; (have EBb := EBa.grown HRa.out (by decide) hgr); (have k5 : wb.cell? ⟨g, 5, none⟩ = some (.slice b nm cb) := by rw [EBb.cell]; rfl); (have HRb := Lib.hid hr); (have HBb := Lib.hid (HBa.out.grown hgr (Nat.le_trans (Nat.le_of_eq HG.out) HBa.out.size) fun k hk => (World.ownsRow.lt HRa.out k hk).1)); clear hr hgr)
  clear k5
  go_loopw [4, 46] (fun s4 s46 wr => ∃ i : Nat, i ≤ nm ∧ s46 = .int .i64 (i : Int) ∧ Row wr g s4 (numL t ++ [3] ++ numL nm ++ idsL (m.take i)) ∧ Below g w wr) (fun _ s46 _ => nm - (intOf s46).toNat)
  case atStart => exact ⟨0, by omega, rfl, by simpa [idsL] using HRb.out, HBb.out⟩
  case round =>
    obtain ⟨i, hi, rfl, hrow, hbw⟩ := hrel
    by_cases hlt : i < nm
    · have hil : i < m.length := by have := HNM.out; omega
      obtain ⟨ad, rfl, hc⟩ := HM2.out.2.2 i hil
      have hst := idsL_step m i hil
      have hy := HMl.out m[i] (List.getElem_mem _)
      obtain ⟨y, hye⟩ : ∃ y, y = m[i] := ⟨_, rfl⟩
      rw [← hye] at hc hst hy
      have hc1 : wr.cell? (ad.add i) = some (.int .u64 (y : Int)) := by rw [hbw.cell (p := ad.add i) (by rw [HG.out]; exact World.block_lt_of_cell? w _ hc)]; exact hc
      have HST := Lib.hid hst
      have HRw := Lib.hid hrow
      have HBw := Lib.hid hbw
      have hil2 := HI.out i
      have hy9 := numL_le y hy
      clear hst hye hil hrow hbw hc
      go_wp2_with fail
      refine (num_any y _ hy).mono ?_
      rintro r wc ⟨u1, rfl, hr, hb⟩
      have A1 := append_bys (B := g) (Nat.le_trans (Nat.le_trans (Nat.le_of_eq HG.out) HBw.out.size) hb.size) (HRw.out.below hb) hr.bys (by simp only [List.length_append, List.length_cons, List.length_nil]; omega)
      have HA1 := Lib.hid A1
      have HRc := Lib.hid (HRw.out.below hb)
      have HBc := Lib.hid (HBw.out.trans (hb.mono (Nat.le_trans (Nat.le_of_eq HG.out) HBw.out.size)))
      clear hr hb A1 hc1
      go_wp2_with (at_builtin; refine wpList_append_by rfl _ _ 34 rfl _ _ rfl rfl _ HA1.out ?_; rintro v6 wd ⟨hr, hgr⟩; (have HRd := Lib.hid hr); (have HBd := Lib.hid (HBc.out.grown hgr (Nat.le_trans (Nat.le_of_eq HG.out) HBc.out.size) fun k hk => (World.ownsRow.lt HRc.out k hk).1)); clear hr hgr)
      go_round
      case rel => exact ⟨i + 1, by omega, by go_num, by rw [HST.out, ← List.append_assoc]; exact HRd.out, HBd.out⟩
      case measure => simp [intOf]; omega
    · have e : m.take i = m := List.take_of_length_le (by have := HNM.out; omega)
      rw [e] at hrow
      have HRw := Lib.hid hrow
      have HBw := Lib.hid hbw
      clear hrow hbw
      go_wp2
      rw [putL_three, ← HNM.out, ← HG.out]
      exact bodyPost_ret (v := .tuple #[_, .int .i64 0]) (by simp [results, Try.results85, go_sem]) rfl ⟨_, rfl, HRw.out, HBw.out⟩

set_option maxHeartbeats 1000000 in
theorem put_no (e : Ent) (a b : Option Addr) (ca cb : Nat) (w : World) (he : Has w e a ca b cb) (hf : formed e = false) :
    Calls Try.prog 85 #[.agg (entC e a ca b cb)] w fun r w' => r = .returned (.tuple #[.slice none 0 0, .int .i64 1]) ∧ Below w.heap.size w w' := by
  have b1 : Below w.heap.size w (w.alloc (.cells (entC e a ca b cb) 62)) := (Below.refl _ _).alloc (Nat.le_refl _) _
  have hF := formed_any e a b ca cb _ (he.below (Nat.le_refl _) b1)
  rw [hf] at hF
  have HF := Lib.hid hF
  have HB1 := Lib.hid b1
  clear hF b1 he hf
  simp only [entC] at HF HB1 ⊢
  go_enter Try.func85, Try.ntmps85
  go_wp2_with fail
  refine HF.out.mono ?_
  rintro r w2 ⟨rfl, hb⟩
  have HB2 := Lib.hid (HB1.out.trans (hb.mono HB1.out.size))
  clear hb HF
  go_wp2
  exact bodyPost_ret (v := .tuple #[.slice none 0 0, .int .i64 1]) (by simp [results, Try.results85, go_sem]) rfl ⟨rfl, HB2.out⟩

theorem put_yes (e : Ent) (a b : Option Addr) (ca cb : Nat) (w : World) (he : Has w e a ca b cb) (hf : formed e = true) :
    Calls Try.prog 85 #[.agg (entC e a ca b cb)] w fun r w' => ∃ v, r = .returned (.tuple #[v, .int .i64 0]) ∧ Row w' w.heap.size v (putL e) ∧ Below w.heap.size w w' := by
  obtain ⟨t, k, c, s, d, m⟩ := e
  by_cases k1 : k = 1
  · subst k1; exact put_1 t c s d m a b ca cb w he hf
  · by_cases k2 : k = 2
    · subst k2; exact put_2 t c s d m a b ca cb w he hf
    · by_cases k3 : k = 3
      · subst k3; exact put_3 t c s d m a b ca cb w he hf
      · rw [formed_none k1 k2 k3] at hf
        cases hf

end Go.Proofs.Ytgbhfolbkgibfaa

