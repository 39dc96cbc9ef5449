/- Joined: CmdPut, CmdEntry, Ents. -/
import Derived.Test.YtidapdooiibfnaaHE
import Derived.Test.YtidapdooiibfnaaHF
import Derived.Deep.Cut
/- The bytes of an entry: Put. -/
namespace Go.Proofs.Ytidapdooiibfnaa
set_option maxRecDepth 20000
open Go.RowKit BinMath CmdMath Reg

theorem load_num (W : World) (p : Addr) (v : Value) (h : W.cell? p = some v) : (Instr.loadAt 22 (.pointer (some p))).run Try.prog W = .ok v W := by
  have hagg : (isAgg 22).run Try.prog W = .ok false W := by kernel_rfl
  simp [Instr.loadAt, Instr.sureAddr, loadVar, Sem.run_bind, hagg, h]
theorem load_int (W : World) (p : Addr) (v : Value) (h : W.cell? p = some v) : (Instr.loadAt 3 (.pointer (some p))).run Try.prog W = .ok v W := by
  have hagg : (isAgg 3).run Try.prog W = .ok false W := by kernel_rfl
  simp [Instr.loadAt, Instr.sureAddr, loadVar, Sem.run_bind, hagg, h]
theorem load_bys (W : World) (p : Addr) (v : Value) (h : W.cell? p = some v) : (Instr.loadAt 25 (.pointer (some p))).run Try.prog W = .ok v W := by
  have hagg : (isAgg 25).run Try.prog W = .ok false W := by kernel_rfl
  simp [Instr.loadAt, Instr.sureAddr, loadVar, Sem.run_bind, hagg, h]
/-- A list of texts in a row that was just laid. -/
def partsF (n : Nat) (ls : List (List UInt8)) : Fact := .sat (fun v W => ∃ g, v = .slice (some ⟨g, 0, none⟩) n n ∧ Parts W g ls) fun _ _ _ ⟨g, hv, hp⟩ hb => ⟨g, hv, hp.below (Nat.le_refl _) hb⟩

theorem range_four : Array.range 4 = #[0, 1, 2, 3] := by apply Array.ext'; simp [List.range_succ]

section
variable {ops : Array Oper} {tab : List (List Nat)} {fin : List Tmp} {G : World → Prop} {f : Tmp → Fact} {i : Nat} {o : Oper}
theorem ask_build_four (hG : ∀ W W', G W → Below W.heap.size W W' → G W') (hg : guardOk ops f o) (s0 s1 s2 s3 : Operand) (l0 l1 l2 l3 : List UInt8)
    (ho : o.op = .buildSlice 124 4 #[(0, s0), (1, s1), (2, s2), (3, s3)]) (h : ∀ x W, G W → Told ops f o x W → Bys W (evalBy x s0) l0 ∧ Bys W (evalBy x s1) l1 ∧ Bys W (evalBy x s2) l2 ∧ Bys W (evalBy x s3) l3)
    (hd : ∀ k, o.dst = some k → f k = partsF 4 [l0, l1, l2, l3]) : Asked Try.prog ops tab fin G f i o := by
  refine ask_grow hG hg fun x W hW hk => ?_
  obtain ⟨h0, h1, h2, h3⟩ := h x W hW hk
  obtain ⟨a0, c0, e0⟩ := h0.shape
  obtain ⟨a1, c1, e1⟩ := h1.shape
  obtain ⟨a2, c2, e2⟩ := h2.shape
  obtain ⟨a3, c3, e3⟩ := h3.shape
  rw [e0] at h0
  rw [e1] at h1
  rw [e2] at h2
  rw [e3] at h3
  have hz : (zeroValue 25).run Try.prog W = .ok (.slice none 0 0) W := by kernel_rfl
  have hs : (Go.sizeOf 25).run Try.prog W = .ok 1 W := by kernel_rfl
  have hr : (Instr.buildSlice 124 4 #[(0, .slice a0 l0.length c0), (1, .slice a1 l1.length c1), (2, .slice a2 l2.length c2), (3, .slice a3 l3.length c3)]).run Try.prog W = .ok (.slice (some ⟨W.heap.size, 0, none⟩) 4 4) (W.alloc (.cells #[.slice a0 l0.length c0, .slice a1 l1.length c1, .slice a2 l2.length c2, .slice a3 l3.length c3] 25)) := by
    simp [Instr.buildSlice, run_underlying Try.underlying124, Result.andThen, hz, hs, Instr.fill, newRow, Value.cells, range_four]
  have hb : Below W.heap.size W (W.alloc (.cells #[.slice a0 l0.length c0, .slice a1 l1.length c1, .slice a2 l2.length c2, .slice a3 l3.length c3] 25)) := (Below.refl _ _).alloc (Nat.le_refl _) _
  refine gives_value (v := .slice (some ⟨W.heap.size, 0, none⟩) 4 4) (w' := W.alloc (.cells #[.slice a0 l0.length c0, .slice a1 l1.length c1, .slice a2 l2.length c2, .slice a3 l3.length c3] 25)) ?_ ⟨hb, fun k hk => by
    rw [hd k hk]
    refine ⟨_, rfl, fun i hi => ?_⟩
    have hi4 : i < 4 := hi
    rcases i with _ | _ | _ | _ | i
    · exact ⟨_, by simp [World.cell?_alloc_at], h0.below (Nat.le_refl _) hb⟩
    · exact ⟨_, by simp [World.cell?_alloc_at], h1.below (Nat.le_refl _) hb⟩
    · exact ⟨_, by simp [World.cell?_alloc_at], h2.below (Nat.le_refl _) hb⟩
    · exact ⟨_, by simp [World.cell?_alloc_at], h3.below (Nat.le_refl _) hb⟩
    · omega⟩
  simp [execOp, ho, hr, e0, e1, e2, e3, Result.andThen]
end

theorem row_low {w : World} {B B' : Nat} {v : Value} {l : List UInt8} (h : Row w B v l) (hB : B' ≤ B) : Row w B' v l := by
  obtain ⟨h1, h2⟩ := h
  refine ⟨h1, h2.elim .inl fun ⟨g, cap, cur, hv, hb, r⟩ => .inr ⟨g, cap, cur, hv, Nat.le_trans hB hb, r⟩⟩

theorem idsL_step (m : List Nat) (i : Nat) (hi : i < m.length) : idsL (m.take (i + 1)) = idsL (m.take i) ++ numL m[i] := by
  rw [List.take_add_one, List.getElem?_eq_getElem hi, idsL_append]
  simp only [Option.toList_some, idsL, List.append_nil]

theorem numL_le (n : Nat) (hn : n < 18446744073709551616) : (numL n).length ≤ 9 := by
  have := nb_le n hn
  rw [numL_length]; omega

theorem idsL_len : ∀ (m : List Nat), (∀ x ∈ m, x < 18446744073709551616) → (idsL m).length ≤ 9 * m.length
  | [], _ => by simp [idsL]
  | x :: r, h => by
    have := idsL_len r fun y hy => h y (List.mem_cons_of_mem _ hy)
    have := numL_le x (h x (by simp))
    simp only [idsL, List.length_append, List.length_cons]
    omega

theorem idsL_take_len (m : List Nat) (i : Nat) (h : ∀ x ∈ m, x < 18446744073709551616) (hm : m.length ≤ 7) : (idsL (m.take i)).length ≤ 63 := by
  have := idsL_len (m.take i) fun x hx => h x (List.mem_of_mem_take hx)
  have h2 : (m.take i).length ≤ 7 := by rw [List.length_take]; omega
  omega

theorem putL_one (t : Nat) (c s : Nat) (d : List UInt8) (m : List Nat) : putL ⟨t, 1, c, s, d, m⟩ = numL t ++ [1] := by simp [putL, tailL]
theorem putL_two (t : Nat) (c s : Nat) (d : List UInt8) (m : List Nat) : putL ⟨t, 2, c, s, d, m⟩ = [numL t ++ [2], numL c, numL s, rawL d].flatten := by simp [putL, tailL, rawL]
theorem putL_three (t : Nat) (c s : Nat) (d : List UInt8) (m : List Nat) : putL ⟨t, 3, c, s, d, m⟩ = (numL t ++ [3] ++ numL m.length) ++ idsL m := by simp [putL, tailL]
theorem formed_len {t : Nat} {c s : Nat} {d : List UInt8} {m : List Nat} (h : formed ⟨t, 2, c, s, d, m⟩ = true) : d.length ≤ 64 := by
  simp only [formed, Bool.and_eq_true] at h
  have := h.2
  simp at this
  exact this.1
theorem formed_mem {t : Nat} {c s : Nat} {d : List UInt8} {m : List Nat} (h : formed ⟨t, 3, c, s, d, m⟩ = true) : m.length ≤ 7 := by
  simp only [formed, Bool.and_eq_true] at h
  have := h.2
  simp at this
  exact (memOk_len this.2).2

set_option maxHeartbeats 4000000 in
set_option maxRecDepth 100000 in
theorem put_1 (t c s : Nat) (d : List UInt8) (m : List Nat) (a b : Option Addr) (ca cb : Nat) (w : World) (he : Has w ⟨t, 1, c, s, d, m⟩ a ca b cb) (hf : formed ⟨t, 1, c, s, d, m⟩ = true) :
    Calls Try.prog 84 #[.agg (entC ⟨t, 1, c, s, d, m⟩ a ca b cb)] w fun r w' => ∃ v, r = .returned (.tuple #[v, .int .i64 0]) ∧ Row w' w.heap.size v (putL ⟨t, 1, c, s, d, m⟩) ∧ Below w.heap.size w w' := by
  have b1 : Below w.heap.size w (w.alloc (.cells (entC ⟨t, 1, c, s, d, m⟩ a ca b cb) 42)) := (Below.refl _ _).alloc (Nat.le_refl _) _
  have hF := formed_any ⟨t, 1, c, s, d, m⟩ a b ca cb _ (he.below (Nat.le_refl _) b1)
  rw [hf] at hF
  obtain ⟨nd, hnd⟩ : ∃ nd, nd = d.length := ⟨_, rfl⟩
  obtain ⟨nm, hnm⟩ : ∃ nm, nm = m.length := ⟨_, rfl⟩
  have HOk := Lib.hid he.ok
  simp only [entC] at hF b1 ⊢
  rw [← hnd, ← hnm] at hF b1 ⊢
  have HF := Lib.hid hF
  have HB1 := Lib.hid b1
  clear he hf hF b1 hnd hnm
  go_enter Try.func84, Try.ntmps84
  go_wp2_with fail
  refine HF.out.mono ?_
  rintro r w2 ⟨rfl, hb⟩
  have EB := (Blk.new w 42 #[.int .u64 (t : Int), .int .i64 1, .int .u64 (c : Int), .int .u64 (s : Int), .slice a nd ca, .slice b nm cb]).keep hb
  obtain ⟨g, hg⟩ : ∃ g, g = w.heap.size := ⟨_, rfl⟩
  have HG := Lib.hid hg
  have HB2 : Hid (Below g w w2) := by rw [hg]; exact HB1.out.trans (hb.mono HB1.out.size)
  have hgw : g ≤ w2.heap.size := by rw [hg]; exact Nat.le_trans HB1.out.size hb.size
  clear hb HF
  rw [← hg] at EB
  have ht64 := HOk.out.t
  clear hg
  go_upto_region 3 with fail
  rw [← HG.out]
  have hG : ∀ W W' : World, Below w2.heap.size w2 W → Below W.heap.size W W' → Below w2.heap.size w2 W' := fun W W' hW hb => hW.trans (hb.mono hW.size)
  refine region_tails_by 7 [(10, .is (.pointer (some ⟨g, 0, none⟩))), (11, .is (.int .u64 (t : Int))), (12, .row w2.heap.size (numL t)), (13, .is (.pointer (some ⟨g, 1, none⟩))), (14, .is (.int .i64 1)), (15, .is (bv 1)), (16, .bys [1])] [1, 12, 16] (fun W => Below w2.heap.size w2 W) (by kernel_rfl) (by kernel_rfl) (by kernel_rfl) (by kernel_rfl) (by kernel_rfl) (by decide) (by kernel_rfl) (by kernel_rfl) ((Below.refl _ _).drew) ?_ ?_
  · refine ⟨?c0, ?c1, ?c2, ?c3, ?c4, ?c5, ?c6, trivial⟩
    case c0 => exact ask_field (guard_none rfl) _ (.tmp 1) 0 (.pointer (some ⟨g, 0, none⟩)) (.pointer (some ⟨g, 0, none⟩)) rfl rfl (by intro k hk; cases hk; rfl) (fun W => by kernel_rfl)
    case c1 => exact ask_load (guard_none rfl) _ (.tmp 10) (.pointer (some ⟨g, 0, none⟩)) (.int .u64 (t : Int)) rfl rfl (by intro k hk; cases hk; rfl) (fun W hW => load_num W _ _ (by rw [hW.cell (p := ⟨g, 0, none⟩) EB.lt, EB.cell]; rfl))
    case c2 => exact ask_call hG (guard_none rfl) _ _ _ #[.int .u64 (t : Int)] (.row w2.heap.size (numL t)) rfl (by kernel_rfl) rfl rfl (by intro k hk; cases hk; rfl) (fun W hW => (num_any t W ht64).mono fun e w' h => by obtain ⟨v, h1, h2, h3⟩ := h; exact ⟨v, h1, row_low h2 hW.size, h3⟩)
    case c3 => exact ask_field (guard_none rfl) _ (.tmp 1) 1 (.pointer (some ⟨g, 0, none⟩)) (.pointer (some ⟨g, 1, none⟩)) rfl rfl (by intro k hk; cases hk; rfl) (fun W => by kernel_rfl)
    case c4 => exact ask_load (guard_none rfl) _ (.tmp 13) (.pointer (some ⟨g, 1, none⟩)) (.int .i64 1) rfl rfl (by intro k hk; cases hk; rfl) (fun W hW => load_int W _ _ (by rw [hW.cell (p := ⟨g, 1, none⟩) EB.lt, EB.cell]; rfl))
    case c5 => exact ask_exec (guard_none rfl) (bv 1) rfl rfl (by intro k hk; cases hk; rfl) (fun W hW => by kernel_rfl)
    case c6 => exact ask_build_one hG (guard_none rfl) (.tmp 15) 1 rfl rfl (by intro k hk; cases hk; rfl)
  intro af w3 hW hd' hs' hf'
  have t1 : af.tmps.getD 1 undef = (.pointer (some ⟨g, 0, none⟩)) := hf' 1 rfl
  have h4 : Row w3 w2.heap.size (af.tmps.getD 12 undef) (numL t) := hf' 12 rfl
  have h6 : Bys w3 (af.tmps.getD 16 undef) [1] := hf' 16 rfl
  obtain ⟨us, hus, haf⟩ := act_open 56 af hs' hd'
  rw [← hus] at t1 h4 h6
  have el : ((List.range 56).map us).toArray = #[us 0, us 1, us 2, us 3, us 4, us 5, us 6, us 7, us 8, us 9, us 10, us 11, us 12, us 13, us 14, us 15, us 16, us 17, us 18, us 19, us 20, us 21, us 22, us 23, us 24, us 25, us 26, us 27, us 28, us 29, us 30, us 31, us 32, us 33, us 34, us 35, us 36, us 37, us 38, us 39, us 40, us 41, us 42, us 43, us 44, us 45, us 46, us 47, us 48, us 49, us 50, us 51, us 52, us 53, us 54, us 55] := rfl
  rw [el] at haf
  subst haf
  rw [t1]
  have A4 := append_bys (B := g) (Nat.le_trans hgw hW.size) (row_low h4 hgw) h6 (by have := numL_le t ht64; simp only [List.length_cons, List.length_nil]; omega)
  have HR3 := Lib.hid (row_low h4 hgw)
  have EBw := EB.keep hW
  have HA4 := Lib.hid A4
  have HBw := Lib.hid (HB2.out.trans (hW.mono hgw))
  have hgw3 : g ≤ w3.heap.size := Nat.le_trans hgw hW.size
  obtain ⟨va, hva⟩ : ∃ va, va = us 12 := ⟨_, rfl⟩
  obtain ⟨vb, hvb⟩ : ∃ vb, vb = us 16 := ⟨_, rfl⟩
  rw [← hva, ← hvb] at HA4 ⊢
  rw [← hva] at HR3
  clear hus t1 el hf' hs' hd' hW h4 h6 hG EB hgw HB2 hva hvb A4
  simp only [List.drop_succ_cons, List.drop_zero]
  go_wp2_with (at_builtin; refine wpList_append_by rfl _ _ 25 rfl _ _ rfl rfl _ HA4.out ?_; rintro v4 w4 ⟨hr, hgr⟩; (have EB3 := EBw.grown HR3.out (by decide) hgr); (have k1 : w4.cell? ⟨g, 1, none⟩ = some (.int .i64 1) := by rw [EB3.cell]; rfl); (have hg3 : g ≤ w4.heap.size := Nat.le_trans hgw3 hgr.size); (have HR4 := Lib.hid hr); (have HB3 := Lib.hid (HBw.out.grown hgr hgw3 fun k hk => (World.ownsRow.lt HR3.out k hk).1)); clear hr hgr)
  rw [putL_one, ← HG.out]
  exact bodyPost_ret (v := .tuple #[v4, .int .i64 0]) (by simp [results, Try.results84, go_sem]) rfl ⟨_, rfl, HR4.out, HB3.out⟩

set_option maxHeartbeats 4000000 in
set_option maxRecDepth 100000 in
theorem put_2 (t c s : Nat) (d : List UInt8) (m : List Nat) (a b : Option Addr) (ca cb : Nat) (w : World) (he : Has w ⟨t, 2, c, s, d, m⟩ a ca b cb) (hf : formed ⟨t, 2, c, s, d, m⟩ = true) :
    Calls Try.prog 84 #[.agg (entC ⟨t, 2, c, s, d, m⟩ a ca b cb)] w fun r w' => ∃ v, r = .returned (.tuple #[v, .int .i64 0]) ∧ Row w' w.heap.size v (putL ⟨t, 2, c, s, d, m⟩) ∧ Below w.heap.size w w' := by
  have b1 : Below w.heap.size w (w.alloc (.cells (entC ⟨t, 2, c, s, d, m⟩ a ca b cb) 42)) := (Below.refl _ _).alloc (Nat.le_refl _) _
  have hF := formed_any ⟨t, 2, c, s, d, m⟩ a b ca cb _ (he.below (Nat.le_refl _) b1)
  rw [hf] at hF
  obtain ⟨nd, hnd⟩ : ∃ nd, nd = d.length := ⟨_, rfl⟩
  obtain ⟨nm, hnm⟩ : ∃ nm, nm = m.length := ⟨_, rfl⟩
  have hdl := he.dl
  have HOk := Lib.hid he.ok
  have HD := Lib.hid he.d
  have h64 := formed_len hf
  have HND := Lib.hid hnd
  simp only [entC] at hF b1 hdl ⊢
  rw [← hnd, ← hnm] at hF b1 ⊢
  have HF := Lib.hid hF
  have HB1 := Lib.hid b1
  clear he hf hF b1 hnd hnm
  go_enter Try.func84, Try.ntmps84
  go_wp2_with fail
  refine HF.out.mono ?_
  rintro r w2 ⟨rfl, hb⟩
  have EB := (Blk.new w 42 #[.int .u64 (t : Int), .int .i64 2, .int .u64 (c : Int), .int .u64 (s : Int), .slice a nd ca, .slice b nm cb]).keep hb
  obtain ⟨g, hg⟩ : ∃ g, g = w.heap.size := ⟨_, rfl⟩
  have HG := Lib.hid hg
  have HB2 : Hid (Below g w w2) := by rw [hg]; exact HB1.out.trans (hb.mono HB1.out.size)
  have hgw : g ≤ w2.heap.size := by rw [hg]; exact Nat.le_trans HB1.out.size hb.size
  clear hb HF
  rw [← hg] at EB
  have ht64 := HOk.out.t
  clear hg
  go_upto_region 3 with fail
  rw [← HG.out]
  have hG : ∀ W W' : World, Below w2.heap.size w2 W → Below W.heap.size W W' → Below w2.heap.size w2 W' := fun W W' hW hb => hW.trans (hb.mono hW.size)
  refine region_tails_by 7 [(10, .is (.pointer (some ⟨g, 0, none⟩))), (11, .is (.int .u64 (t : Int))), (12, .row w2.heap.size (numL t)), (13, .is (.pointer (some ⟨g, 1, none⟩))), (14, .is (.int .i64 2)), (15, .is (bv 2)), (16, .bys [2])] [1, 12, 16] (fun W => Below w2.heap.size w2 W) (by kernel_rfl) (by kernel_rfl) (by kernel_rfl) (by kernel_rfl) (by kernel_rfl) (by decide) (by kernel_rfl) (by kernel_rfl) ((Below.refl _ _).drew) ?_ ?_
  · refine ⟨?c0, ?c1, ?c2, ?c3, ?c4, ?c5, ?c6, trivial⟩
    case c0 => exact ask_field (guard_none rfl) _ (.tmp 1) 0 (.pointer (some ⟨g, 0, none⟩)) (.pointer (some ⟨g, 0, none⟩)) rfl rfl (by intro k hk; cases hk; rfl) (fun W => by kernel_rfl)
    case c1 => exact ask_load (guard_none rfl) _ (.tmp 10) (.pointer (some ⟨g, 0, none⟩)) (.int .u64 (t : Int)) rfl rfl (by intro k hk; cases hk; rfl) (fun W hW => load_num W _ _ (by rw [hW.cell (p := ⟨g, 0, none⟩) EB.lt, EB.cell]; rfl))
    case c2 => exact ask_call hG (guard_none rfl) _ _ _ #[.int .u64 (t : Int)] (.row w2.heap.size (numL t)) rfl (by kernel_rfl) rfl rfl (by intro k hk; cases hk; rfl) (fun W hW => (num_any t W ht64).mono fun e w' h => by obtain ⟨v, h1, h2, h3⟩ := h; exact ⟨v, h1, row_low h2 hW.size, h3⟩)
    case c3 => exact ask_field (guard_none rfl) _ (.tmp 1) 1 (.pointer (some ⟨g, 0, none⟩)) (.pointer (some ⟨g, 1, none⟩)) rfl rfl (by intro k hk; cases hk; rfl) (fun W => by kernel_rfl)
    case c4 => exact ask_load (guard_none rfl) _ (.tmp 13) (.pointer (some ⟨g, 1, none⟩)) (.int .i64 2) rfl rfl (by intro k hk; cases hk; rfl) (fun W hW => load_int W _ _ (by rw [hW.cell (p := ⟨g, 1, none⟩) EB.lt, EB.cell]; rfl))
    case c5 => exact ask_exec (guard_none rfl) (bv 2) rfl rfl (by intro k hk; cases hk; rfl) (fun W hW => by kernel_rfl)
    case c6 => exact ask_build_one hG (guard_none rfl) (.tmp 15) 2 rfl rfl (by intro k hk; cases hk; rfl)
  intro af w3 hW hd' hs' hf'
  have t1 : af.tmps.getD 1 undef = (.pointer (some ⟨g, 0, none⟩)) := hf' 1 rfl
  have h4 : Row w3 w2.heap.size (af.tmps.getD 12 undef) (numL t) := hf' 12 rfl
  have h6 : Bys w3 (af.tmps.getD 16 undef) [2] := hf' 16 rfl
  obtain ⟨us, hus, haf⟩ := act_open 56 af hs' hd'
  rw [← hus] at t1 h4 h6
  have el : ((List.range 56).map us).toArray = #[us 0, us 1, us 2, us 3, us 4, us 5, us 6, us 7, us 8, us 9, us 10, us 11, us 12, us 13, us 14, us 15, us 16, us 17, us 18, us 19, us 20, us 21, us 22, us 23, us 24, us 25, us 26, us 27, us 28, us 29, us 30, us 31, us 32, us 33, us 34, us 35, us 36, us 37, us 38, us 39, us 40, us 41, us 42, us 43, us 44, us 45, us 46, us 47, us 48, us 49, us 50, us 51, us 52, us 53, us 54, us 55] := rfl
  rw [el] at haf
  subst haf
  rw [t1]
  have A4 := append_bys (B := g) (Nat.le_trans hgw hW.size) (row_low h4 hgw) h6 (by have := numL_le t ht64; simp only [List.length_cons, List.length_nil]; omega)
  have HR3 := Lib.hid (row_low h4 hgw)
  have EBw := EB.keep hW
  have HA4 := Lib.hid A4
  have HBw := Lib.hid (HB2.out.trans (hW.mono hgw))
  have hgw3 : g ≤ w3.heap.size := Nat.le_trans hgw hW.size
  obtain ⟨va, hva⟩ : ∃ va, va = us 12 := ⟨_, rfl⟩
  obtain ⟨vb, hvb⟩ : ∃ vb, vb = us 16 := ⟨_, rfl⟩
  rw [← hva, ← hvb] at HA4 ⊢
  rw [← hva] at HR3
  clear hus t1 el hf' hs' hd' hW h4 h6 hG EB hgw HB2 hva hvb A4
  simp only [List.drop_succ_cons, List.drop_zero]
  go_wp2_with (at_builtin; refine wpList_append_by rfl _ _ 25 rfl _ _ rfl rfl _ HA4.out ?_; rintro v4 w4 ⟨hr, hgr⟩; (have EB3 := EBw.grown HR3.out (by decide) hgr); (have k1 : w4.cell? ⟨g, 1, none⟩ = some (.int .i64 2) := by rw [EB3.cell]; rfl); (have hg3 : g ≤ w4.heap.size := Nat.le_trans hgw3 hgr.size); (have HR4 := Lib.hid hr); (have HB3 := Lib.hid (HBw.out.grown hgr hgw3 fun k hk => (World.ownsRow.lt HR3.out k hk).1)); clear hr hgr)
  have hc64 := HOk.out.c
  have hs64 := HOk.out.s
  go_upto_region 6 with fail
  have hG : ∀ W W' : World, Below w4.heap.size w4 W → Below W.heap.size W W' → Below w4.heap.size w4 W' := fun W W' hW hb => hW.trans (hb.mono hW.size)
  have HDd : Hid (∀ W, Below w4.heap.size w4 W → Bys W (.slice a nd ca) d) := Lib.hid fun W hW => by
    rw [HND.out]
    exact HD.out.below (Nat.le_refl _) ((HB3.out.mono (Nat.le_of_eq HG.out.symm)).trans (hW.mono (HB3.out.mono (Nat.le_of_eq HG.out.symm)).size))
  have HLen : Hid ([(numL t ++ [2]), numL c, numL s, rawL d].flatten.length ≤ 1099511627776) := Lib.hid (by
    have h1 := numL_le t ht64
    have h2 := numL_le c hc64
    have h3 := numL_le s hs64
    have h4 := numL_le d.length (by omega)
    simp only [rawL, List.flatten_cons, List.flatten_nil, List.length_append, List.length_cons, List.length_nil]
    omega)
  refine region_last_by 12 _ _ rfl [(22, .is v4), (23, .is (.pointer (some ⟨g, 2, none⟩))), (24, .is (.int .u64 (c : Int))), (25, .bys (numL c)), (26, .is (.pointer (some ⟨g, 3, none⟩))), (27, .is (.int .u64 (s : Int))), (28, .bys (numL s)), (29, .is (.pointer (some ⟨g, 4, none⟩))), (30, .is (.slice a nd ca)), (31, .bys (rawL d)), (32, partsF 4 [(numL t ++ [2]), numL c, numL s, rawL d]), (33, .row g [(numL t ++ [2]), numL c, numL s, rawL d].flatten)] [19, 33] (fun W => Below w4.heap.size w4 W) (by kernel_rfl) (by kernel_rfl) (by kernel_rfl) (by kernel_rfl) (fun k fk hk => .inl (by
      by_cases h4 : k = 4
      · subst h4; cases hk
      · exact lookup_all 4 (by kernel_rfl) hk h4)) rfl rfl rfl (by kernel_rfl) ((Below.refl _ _).drew) ?_ ?_
  · refine ⟨?c0, ?c1, ?c2, ?c3, ?c4, ?c5, ?c6, ?c7, ?c8, ?c9, ?c10, ?c11, trivial⟩
    case c0 => exact ask_copy (guard_none rfl) (.tmp 4) (.inl rfl) (by intro k hk; cases hk; rfl)
    case c1 => exact ask_field (guard_none rfl) _ (.tmp 1) 2 (.pointer (some ⟨g, 0, none⟩)) (.pointer (some ⟨g, 2, none⟩)) rfl rfl (by intro k hk; cases hk; rfl) (fun W => by kernel_rfl)
    case c2 => exact ask_load (guard_none rfl) _ (.tmp 23) (.pointer (some ⟨g, 2, none⟩)) (.int .u64 (c : Int)) rfl rfl (by intro k hk; cases hk; rfl) (fun W hW => load_num W _ _ (by rw [hW.cell (p := ⟨g, 2, none⟩) EB3.lt, EB3.cell]; rfl))
    case c3 => exact ask_call hG (guard_none rfl) _ _ _ #[.int .u64 (c : Int)] (.bys (numL c)) rfl (by kernel_rfl) rfl rfl (by intro k hk; cases hk; rfl) (fun W hW => (num_any c W hc64).mono fun e w' h => by obtain ⟨v, h1, h2, h3⟩ := h; exact ⟨v, h1, h2.bys, h3⟩)
    case c4 => exact ask_field (guard_none rfl) _ (.tmp 1) 3 (.pointer (some ⟨g, 0, none⟩)) (.pointer (some ⟨g, 3, none⟩)) rfl rfl (by intro k hk; cases hk; rfl) (fun W => by kernel_rfl)
    case c5 => exact ask_load (guard_none rfl) _ (.tmp 26) (.pointer (some ⟨g, 3, none⟩)) (.int .u64 (s : Int)) rfl rfl (by intro k hk; cases hk; rfl) (fun W hW => load_num W _ _ (by rw [hW.cell (p := ⟨g, 3, none⟩) EB3.lt, EB3.cell]; rfl))
    case c6 => exact ask_call hG (guard_none rfl) _ _ _ #[.int .u64 (s : Int)] (.bys (numL s)) rfl (by kernel_rfl) rfl rfl (by intro k hk; cases hk; rfl) (fun W hW => (num_any s W hs64).mono fun e w' h => by obtain ⟨v, h1, h2, h3⟩ := h; exact ⟨v, h1, h2.bys, h3⟩)
    case c7 => exact ask_field (guard_none rfl) _ (.tmp 1) 4 (.pointer (some ⟨g, 0, none⟩)) (.pointer (some ⟨g, 4, none⟩)) rfl rfl (by intro k hk; cases hk; rfl) (fun W => by kernel_rfl)
    case c8 => exact ask_load (guard_none rfl) _ (.tmp 29) (.pointer (some ⟨g, 4, none⟩)) (.slice a nd ca) rfl rfl (by intro k hk; cases hk; rfl) (fun W hW => load_bys W _ _ (by rw [hW.cell (p := ⟨g, 4, none⟩) EB3.lt, EB3.cell]; rfl))
    case c9 => exact ask_call hG (guard_none rfl) _ _ _ #[.slice a nd ca] (.bys (rawL d)) rfl (by kernel_rfl) rfl rfl (by intro k hk; cases hk; rfl) (fun W hW => (raw_any _ d W (HDd.out W hW) hdl).mono fun e w' h => by obtain ⟨v, h1, h2, h3⟩ := h; exact ⟨v, h1, h2.bys, h3⟩)
    case c10 => exact ask_build_four hG (guard_none rfl) (.tmp 22) (.tmp 25) (.tmp 28) (.tmp 31) (numL t ++ [2]) (numL c) (numL s) (rawL d) rfl (fun x W hW hk => ⟨by rw [show evalBy x (.tmp 22) = v4 from hk 22 rfl]; exact HR4.out.bys.below (Nat.le_refl _) hW, hk 25 rfl, hk 28 rfl, hk 31 rfl⟩) (by intro k hk; cases hk; rfl)
    case c11 => exact ask_call_by hG (guard_none rfl) _ _ _ (.row g [(numL t ++ [2]), numL c, numL s, rawL d].flatten) rfl (by kernel_rfl) (by intro k hk; cases hk; rfl) (fun x W hW hk => by
        obtain ⟨h, hv, hp⟩ := hk 32 rfl
        show Calls _ _ #[x 32] W _
        rw [hv]
        exact (concat_any h 4 [(numL t ++ [2]), numL c, numL s, rawL d] W hp rfl (by omega) HLen.out).mono fun e w' ⟨v, h1, h2, h3⟩ => ⟨v, h1, row_low h2 (Nat.le_trans hg3 hW.size), h3⟩)
  intro af w5 hW hd' hs' hf'
  have h33 : Row w5 g (af.tmps.getD 33 undef) [(numL t ++ [2]), numL c, numL s, rawL d].flatten := hf' 33 rfl
  have t19 : af.tmps.getD 19 undef = .int .i64 2 := hf' 19 rfl
  obtain ⟨us, hus, haf⟩ := act_open 56 af hs' hd'
  rw [← hus] at h33 t19
  have el : ((List.range 56).map us).toArray = #[us 0, us 1, us 2, us 3, us 4, us 5, us 6, us 7, us 8, us 9, us 10, us 11, us 12, us 13, us 14, us 15, us 16, us 17, us 18, us 19, us 20, us 21, us 22, us 23, us 24, us 25, us 26, us 27, us 28, us 29, us 30, us 31, us 32, us 33, us 34, us 35, us 36, us 37, us 38, us 39, us 40, us 41, us 42, us 43, us 44, us 45, us 46, us 47, us 48, us 49, us 50, us 51, us 52, us 53, us 54, us 55] := rfl
  rw [el] at haf
  subst haf
  rw [t19]
  have HR6 := Lib.hid h33
  have HB6 := Lib.hid (HB3.out.trans (hW.mono hg3))
  clear hus t19 el hf' hs' hd' hW h33 hG
  go_wp2
  rw [putL_two, ← HG.out]
  exact bodyPost_ret (v := .tuple #[us 33, .int .i64 0]) (by simp [results, Try.results84, go_sem]) rfl ⟨_, rfl, HR6.out, HB6.out⟩

set_option maxHeartbeats 4000000 in
set_option maxRecDepth 100000 in
theorem put_3 (t c s : Nat) (d : List UInt8) (m : List Nat) (a b : Option Addr) (ca cb : Nat) (w : World) (he : Has w ⟨t, 3, c, s, d, m⟩ a ca b cb) (hf : formed ⟨t, 3, c, s, d, m⟩ = true) :
    Calls Try.prog 84 #[.agg (entC ⟨t, 3, c, s, d, m⟩ a ca b cb)] w fun r w' => ∃ v, r = .returned (.tuple #[v, .int .i64 0]) ∧ Row w' w.heap.size v (putL ⟨t, 3, c, s, d, m⟩) ∧ Below w.heap.size w w' := by
  have b1 : Below w.heap.size w (w.alloc (.cells (entC ⟨t, 3, c, s, d, m⟩ a ca b cb) 42)) := (Below.refl _ _).alloc (Nat.le_refl _) _
  have hF := formed_any ⟨t, 3, c, s, d, m⟩ a b ca cb _ (he.below (Nat.le_refl _) b1)
  rw [hf] at hF
  obtain ⟨nd, hnd⟩ : ∃ nd, nd = d.length := ⟨_, rfl⟩
  obtain ⟨nm, hnm⟩ : ∃ nm, nm = m.length := ⟨_, rfl⟩
  have hml := he.ml
  have HOk := Lib.hid he.ok
  have HM := Lib.hid he.m
  have h7 := formed_mem hf
  have HNM := Lib.hid hnm
  simp only [entC] at hF b1 hml ⊢
  rw [← hnd, ← hnm] at hF b1 ⊢
  have HF := Lib.hid hF
  have HB1 := Lib.hid b1
  clear he hf hF b1 hnd hnm
  go_enter Try.func84, Try.ntmps84
  go_wp2_with fail
  refine HF.out.mono ?_
  rintro r w2 ⟨rfl, hb⟩
  have EB := (Blk.new w 42 #[.int .u64 (t : Int), .int .i64 3, .int .u64 (c : Int), .int .u64 (s : Int), .slice a nd ca, .slice b nm cb]).keep hb
  obtain ⟨g, hg⟩ : ∃ g, g = w.heap.size := ⟨_, rfl⟩
  have HG := Lib.hid hg
  have HB2 : Hid (Below g w w2) := by rw [hg]; exact HB1.out.trans (hb.mono HB1.out.size)
  have hgw : g ≤ w2.heap.size := by rw [hg]; exact Nat.le_trans HB1.out.size hb.size
  clear hb HF
  rw [← hg] at EB
  have ht64 := HOk.out.t
  clear hg
  go_upto_region 3 with fail
  rw [← HG.out]
  have hG : ∀ W W' : World, Below w2.heap.size w2 W → Below W.heap.size W W' → Below w2.heap.size w2 W' := fun W W' hW hb => hW.trans (hb.mono hW.size)
  refine region_tails_by 7 [(10, .is (.pointer (some ⟨g, 0, none⟩))), (11, .is (.int .u64 (t : Int))), (12, .row w2.heap.size (numL t)), (13, .is (.pointer (some ⟨g, 1, none⟩))), (14, .is (.int .i64 3)), (15, .is (bv 3)), (16, .bys [3])] [1, 12, 16] (fun W => Below w2.heap.size w2 W) (by kernel_rfl) (by kernel_rfl) (by kernel_rfl) (by kernel_rfl) (by kernel_rfl) (by decide) (by kernel_rfl) (by kernel_rfl) ((Below.refl _ _).drew) ?_ ?_
  · refine ⟨?c0, ?c1, ?c2, ?c3, ?c4, ?c5, ?c6, trivial⟩
    case c0 => exact ask_field (guard_none rfl) _ (.tmp 1) 0 (.pointer (some ⟨g, 0, none⟩)) (.pointer (some ⟨g, 0, none⟩)) rfl rfl (by intro k hk; cases hk; rfl) (fun W => by kernel_rfl)
    case c1 => exact ask_load (guard_none rfl) _ (.tmp 10) (.pointer (some ⟨g, 0, none⟩)) (.int .u64 (t : Int)) rfl rfl (by intro k hk; cases hk; rfl) (fun W hW => load_num W _ _ (by rw [hW.cell (p := ⟨g, 0, none⟩) EB.lt, EB.cell]; rfl))
    case c2 => exact ask_call hG (guard_none rfl) _ _ _ #[.int .u64 (t : Int)] (.row w2.heap.size (numL t)) rfl (by kernel_rfl) rfl rfl (by intro k hk; cases hk; rfl) (fun W hW => (num_any t W ht64).mono fun e w' h => by obtain ⟨v, h1, h2, h3⟩ := h; exact ⟨v, h1, row_low h2 hW.size, h3⟩)
    case c3 => exact ask_field (guard_none rfl) _ (.tmp 1) 1 (.pointer (some ⟨g, 0, none⟩)) (.pointer (some ⟨g, 1, none⟩)) rfl rfl (by intro k hk; cases hk; rfl) (fun W => by kernel_rfl)
    case c4 => exact ask_load (guard_none rfl) _ (.tmp 13) (.pointer (some ⟨g, 1, none⟩)) (.int .i64 3) rfl rfl (by intro k hk; cases hk; rfl) (fun W hW => load_int W _ _ (by rw [hW.cell (p := ⟨g, 1, none⟩) EB.lt, EB.cell]; rfl))
    case c5 => exact ask_exec (guard_none rfl) (bv 3) rfl rfl (by intro k hk; cases hk; rfl) (fun W hW => by kernel_rfl)
    case c6 => exact ask_build_one hG (guard_none rfl) (.tmp 15) 3 rfl rfl (by intro k hk; cases hk; rfl)
  intro af w3 hW hd' hs' hf'
  have t1 : af.tmps.getD 1 undef = (.pointer (some ⟨g, 0, none⟩)) := hf' 1 rfl
  have h4 : Row w3 w2.heap.size (af.tmps.getD 12 undef) (numL t) := hf' 12 rfl
  have h6 : Bys w3 (af.tmps.getD 16 undef) [3] := hf' 16 rfl
  obtain ⟨us, hus, haf⟩ := act_open 56 af hs' hd'
  rw [← hus] at t1 h4 h6
  have el : ((List.range 56).map us).toArray = #[us 0, us 1, us 2, us 3, us 4, us 5, us 6, us 7, us 8, us 9, us 10, us 11, us 12, us 13, us 14, us 15, us 16, us 17, us 18, us 19, us 20, us 21, us 22, us 23, us 24, us 25, us 26, us 27, us 28, us 29, us 30, us 31, us 32, us 33, us 34, us 35, us 36, us 37, us 38, us 39, us 40, us 41, us 42, us 43, us 44, us 45, us 46, us 47, us 48, us 49, us 50, us 51, us 52, us 53, us 54, us 55] := rfl
  rw [el] at haf
  subst haf
  rw [t1]
  have A4 := append_bys (B := g) (Nat.le_trans hgw hW.size) (row_low h4 hgw) h6 (by have := numL_le t ht64; simp only [List.length_cons, List.length_nil]; omega)
  have HR3 := Lib.hid (row_low h4 hgw)
  have EBw := EB.keep hW
  have HA4 := Lib.hid A4
  have HBw := Lib.hid (HB2.out.trans (hW.mono hgw))
  have hgw3 : g ≤ w3.heap.size := Nat.le_trans hgw hW.size
  obtain ⟨va, hva⟩ : ∃ va, va = us 12 := ⟨_, rfl⟩
  obtain ⟨vb, hvb⟩ : ∃ vb, vb = us 16 := ⟨_, rfl⟩
  rw [← hva, ← hvb] at HA4 ⊢
  rw [← hva] at HR3
  clear hus t1 el hf' hs' hd' hW h4 h6 hG EB hgw HB2 hva hvb A4
  have h7' : nm ≤ 7 := by rw [HNM.out]; exact h7
  have hcv := conv_len nm (by omega)
  simp only [List.drop_succ_cons, List.drop_zero]
  go_wp2_with (at_builtin; refine wpList_append_by rfl _ _ 25 rfl _ _ rfl rfl _ HA4.out ?_; rintro v4 w4 ⟨hr, hgr⟩; (have EB3 := EBw.grown HR3.out (by decide) hgr); (have k1 : w4.cell? ⟨g, 1, none⟩ = some (.int .i64 3) := by rw [EB3.cell]; rfl); (have k5 : w4.cell? ⟨g, 5, none⟩ = some (.slice b nm cb) := by rw [EB3.cell]; rfl); (have hg3 : g ≤ w4.heap.size := Nat.le_trans hgw3 hgr.size); (have HR4 := Lib.hid hr); (have HB3 := Lib.hid (HBw.out.grown hgr hgw3 fun k hk => (World.ownsRow.lt HR3.out k hk).1)); clear hr hgr)
  have h1 := numL_le t ht64
  have h2 := numL_le nm (by omega)
  have HM2 := Lib.hid HM.out.at
  have HMl := Lib.hid HOk.out.m
  have HI := Lib.hid (fun i => idsL_take_len m i HMl.out h7)
  clear HM
  refine (num_any nm _ (by omega)).mono ?_
  rintro r wa ⟨u0, rfl, hr, hb⟩
  have EBa := EB3.keep hb
  have A0 := append_bys (B := g) (Nat.le_trans hg3 hb.size) (HR4.out.below hb) hr.bys (by simp only [List.length_append, List.length_cons, List.length_nil]; omega)
  have HA0 := Lib.hid A0
  have HRa := Lib.hid (HR4.out.below hb)
  have HBa := Lib.hid (HB3.out.trans (hb.mono hg3))
  clear hr hb A0 k5 k1
  go_wp2_with (at_builtin; refine wpList_append_by rfl _ _ 25 rfl _ _ rfl rfl _ HA0.out ?_; rintro v5 wb ⟨hr, hgr⟩; (have EBb := EBa.grown HRa.out (by decide) hgr); (have k5 : wb.cell? ⟨g, 5, none⟩ = some (.slice b nm cb) := by rw [EBb.cell]; rfl); (have HRb := Lib.hid hr); (have HBb := Lib.hid (HBa.out.grown hgr (Nat.le_trans (Nat.le_of_eq HG.out) HBa.out.size) fun k hk => (World.ownsRow.lt HRa.out k hk).1)); clear hr hgr)
  clear k5
  go_loopw [4, 46] (fun s4 s46 wr => ∃ i : Nat, i ≤ nm ∧ s46 = .int .i64 (i : Int) ∧ Row wr g s4 (numL t ++ [3] ++ numL nm ++ idsL (m.take i)) ∧ Below g w wr) (fun _ s46 _ => nm - (intOf s46).toNat)
  case atStart => exact ⟨0, by omega, rfl, by simpa [idsL] using HRb.out, HBb.out⟩
  case round =>
    obtain ⟨i, hi, rfl, hrow, hbw⟩ := hrel
    by_cases hlt : i < nm
    · have hil : i < m.length := by have := HNM.out; omega
      obtain ⟨ad, rfl, hc⟩ := HM2.out.2.2 i hil
      have hst := idsL_step m i hil
      have hy := HMl.out m[i] (List.getElem_mem _)
      obtain ⟨y, hye⟩ : ∃ y, y = m[i] := ⟨_, rfl⟩
      rw [← hye] at hc hst hy
      have hc1 : wr.cell? (ad.add i) = some (.int .u64 (y : Int)) := by rw [hbw.cell (p := ad.add i) (by rw [HG.out]; exact World.block_lt_of_cell? w _ hc)]; exact hc
      have HST := Lib.hid hst
      have HRw := Lib.hid hrow
      have HBw := Lib.hid hbw
      have hil2 := HI.out i
      have hy9 := numL_le y hy
      clear hst hye hil hrow hbw hc
      go_wp2_with fail
      refine (num_any y _ hy).mono ?_
      rintro r wc ⟨u1, rfl, hr, hb⟩
      have A1 := append_bys (B := g) (Nat.le_trans (Nat.le_trans (Nat.le_of_eq HG.out) HBw.out.size) hb.size) (HRw.out.below hb) hr.bys (by simp only [List.length_append, List.length_cons, List.length_nil]; omega)
      have HA1 := Lib.hid A1
      have HRc := Lib.hid (HRw.out.below hb)
      have HBc := Lib.hid (HBw.out.trans (hb.mono (Nat.le_trans (Nat.le_of_eq HG.out) HBw.out.size)))
      clear hr hb A1 hc1
      go_wp2_with (at_builtin; refine wpList_append_by rfl _ _ 25 rfl _ _ rfl rfl _ HA1.out ?_; rintro v6 wd ⟨hr, hgr⟩; (have HRd := Lib.hid hr); (have HBd := Lib.hid (HBc.out.grown hgr (Nat.le_trans (Nat.le_of_eq HG.out) HBc.out.size) fun k hk => (World.ownsRow.lt HRc.out k hk).1)); clear hr hgr)
      go_round
      case rel => exact ⟨i + 1, by omega, by go_num, by rw [HST.out, ← List.append_assoc]; exact HRd.out, HBd.out⟩
      case measure => simp [intOf]; omega
    · have e : m.take i = m := List.take_of_length_le (by have := HNM.out; omega)
      rw [e] at hrow
      have HRw := Lib.hid hrow
      have HBw := Lib.hid hbw
      clear hrow hbw
      go_wp2
      rw [putL_three, ← HNM.out, ← HG.out]
      exact bodyPost_ret (v := .tuple #[_, .int .i64 0]) (by simp [results, Try.results84, go_sem]) rfl ⟨_, rfl, HRw.out, HBw.out⟩

set_option maxHeartbeats 1000000 in
theorem put_no (e : Ent) (a b : Option Addr) (ca cb : Nat) (w : World) (he : Has w e a ca b cb) (hf : formed e = false) :
    Calls Try.prog 84 #[.agg (entC e a ca b cb)] w fun r w' => r = .returned (.tuple #[.slice none 0 0, .int .i64 1]) ∧ Below w.heap.size w w' := by
  have b1 : Below w.heap.size w (w.alloc (.cells (entC e a ca b cb) 42)) := (Below.refl _ _).alloc (Nat.le_refl _) _
  have hF := formed_any e a b ca cb _ (he.below (Nat.le_refl _) b1)
  rw [hf] at hF
  have HF := Lib.hid hF
  have HB1 := Lib.hid b1
  clear hF b1 he hf
  simp only [entC] at HF HB1 ⊢
  go_enter Try.func84, Try.ntmps84
  go_wp2_with fail
  refine HF.out.mono ?_
  rintro r w2 ⟨rfl, hb⟩
  have HB2 := Lib.hid (HB1.out.trans (hb.mono HB1.out.size))
  clear hb HF
  go_wp2
  exact bodyPost_ret (v := .tuple #[.slice none 0 0, .int .i64 1]) (by simp [results, Try.results84, go_sem]) rfl ⟨rfl, HB2.out⟩

theorem put_yes (e : Ent) (a b : Option Addr) (ca cb : Nat) (w : World) (he : Has w e a ca b cb) (hf : formed e = true) :
    Calls Try.prog 84 #[.agg (entC e a ca b cb)] w fun r w' => ∃ v, r = .returned (.tuple #[v, .int .i64 0]) ∧ Row w' w.heap.size v (putL e) ∧ Below w.heap.size w w' := by
  obtain ⟨t, k, c, s, d, m⟩ := e
  by_cases k1 : k = 1
  · subst k1; exact put_1 t c s d m a b ca cb w he hf
  · by_cases k2 : k = 2
    · subst k2; exact put_2 t c s d m a b ca cb w he hf
    · by_cases k3 : k = 3
      · subst k3; exact put_3 t c s d m a b ca cb w he hf
      · rw [formed_none k1 k2 k3] at hf
        cases hf

end Go.Proofs.Ytidapdooiibfnaa

/- An entry, read by the program. -/
namespace Go.Proofs.Ytidapdooiibfnaa
set_option maxRecDepth 20000
open Go.RowKit BinMath CmdMath
variable {G : Nat}

/-- One cell of a block, written. -/
theorem run_store_fld {P : Program} {W : World} {g : Nat} {t : TypeId} {cs : Array Value} (hb : Blk W g t cs) (ty : TypeId) (i : Nat) (hi : i < cs.size) (v : Value) (h1 : v.oneCell' = true) (hs : (P.info? ty).map (·.size) = some 1) :
    (Instr.storeAt ty (.pointer (some ⟨g, i, none⟩)) v).run P W = .ok () (W.setCell ⟨g, i, none⟩ v) := by
  have hc : v.cells = #[v] := by cases v <;> first | rfl | cases h1
  have hcell : W.cell? ⟨g, i, none⟩ = some cs[i] := by rw [hb.cell]; simp [hi]
  have hst := run_store P W ⟨g, i, none⟩ v .plain h1
  rw [hcell, hb.frozen] at hst
  cases hq : P.info? ty with
  | none => simp [hq] at hs
  | some q =>
    have hsz : q.size = 1 := by simpa [hq] using hs
    have ha : (⟨g, i, none⟩ : Addr).add 0 = ⟨g, i, none⟩ := by simp [Addr.add]
    simp [Instr.storeAt, Instr.sureAddr, storeVar, Sem.run_bind, sizeOf, typeInfo, hq, hsz, hc, storeCells, ha]
    rw [show (Go.store ⟨g, i, none⟩ v).run P W = .ok () (W.setCell ⟨g, i, none⟩ v) from hst]

theorem setRow_onlyS (W : World) (g : Nat) (cs : Array Value) : OnlyS (fun b => b = g) W (W.setRow g cs) :=
  ⟨rfl, rfl, rfl, by simp [World.setRow], fun k _ hk => setRow_other W g k cs hk⟩

/-- A field, written in a walk. -/
theorem wpList_store_fld {P : Program} {w : World} {ops : Array Oper} {rest : List Oper} {o : Oper} {a : Act} {Q : Exit → Act → World → Prop} (hgd : o.guard = none) (ty : TypeId) (x y : Operand) (ho : o.op = .store ty x y) (g i : Nat) (v : Value)
    (hx : a.eval x = .pointer (some ⟨g, i, none⟩)) (hy : a.eval y = v) (t : TypeId) (cs cs' : Array Value) (hb : Blk w g t cs) (hi : i < cs.size) (h1 : v.oneCell' = true) (hs : (P.info? ty).map (·.size) = some 1) (hcs : cs.setIfInBounds i v = cs')
    (h : ∀ w', Blk w' g t cs' → OnlyS (fun b => b = g) w w' → wpList P ops Q rest (a.put o.dst undef) w') : wpList P ops Q (o :: rest) a w := by
  subst hcs
  exact wpList_store_by hgd ty x y ho _ _ hx hy _ (run_store_fld hb ty i hi v h1 hs) (h _ (hb.set i v) ((OnlyS.refl (fun b => b = g) w).setCell (p := ⟨g, i, none⟩) (fun _ => rfl) v))

/-- A whole block, written in a walk. -/
theorem wpList_store_all {P : Program} {w : World} {ops : Array Oper} {rest : List Oper} {o : Oper} {a : Act} {Q : Exit → Act → World → Prop} (hgd : o.guard = none) (ty : TypeId) (x y : Operand) (ho : o.op = .store ty x y) (g : Nat) (cs : Array Value)
    (hx : a.eval x = .pointer (some ⟨g, 0, none⟩)) (hy : a.eval y = .agg cs) (t : TypeId) (old : Array Value) (hb : Blk w g t old) (hi : (P.info? ty).map (·.size) = some cs.size) (hold : old.size = cs.size) (h1 : cs.all (·.oneCell') = true)
    (h : ∀ w', Blk w' g t cs → OnlyS (fun b => b = g) w w' → wpList P ops Q rest (a.put o.dst undef) w') : wpList P ops Q (o :: rest) a w :=
  wpList_store_by hgd ty x y ho _ _ hx hy _ (hb.stores ty cs hi hold h1) (h _ (hb.row cs) (setRow_onlyS w g cs))

/-- The cells of the entry that is nothing. -/
def zeroC : Array Value := #[.int .u64 0, .int .i64 0, .int .u64 0, .int .u64 0, .slice none 0 0, .slice none 0 0]

theorem Blk.onlyR {w w' : World} {R g : Nat} {t : TypeId} {cs : Array Value} (h : Blk w g t cs) (ho : Only R w w') (hne : g ≠ R) : Blk w' g t cs := by
  have hl := h.lt
  unfold Blk at *
  rw [ho.block g hl hne]
  exact h

theorem Blk.onlyS {w w' : World} {g : Nat} {t : TypeId} {cs : Array Value} {S : Nat → Prop} (h : Blk w g t cs) (ho : OnlyS S w w') (hne : ¬ S g) : Blk w' g t cs := by
  have hl := h.lt
  unfold Blk at *
  rw [ho.block g hl hne]
  exact h

theorem Only.wrote {R g : Nat} {w w' w'' : World} (h : Only R w w') (ho : OnlyS (fun b => b = g) w' w'') (hg : w.heap.size ≤ g) : Only R w w'' :=
  ⟨ho.os.trans h.os, ho.tape.trans h.tape, ho.output.trans h.output, Nat.le_trans h.size ho.size, fun k hk hr => by
    rw [ho.block k (Nat.lt_of_lt_of_le hk h.size) (fun e => by omega)]
    exact h.block k hk hr⟩

/-- An entry of the call's own, from block B on. -/
structure Mine (w : World) (B : Nat) (e : Ent) (a : Option Addr) (ca : Nat) (b : Option Addr) (cb : Nat) : Prop where
  ok : e.Ok
  d : Row w B (.slice a e.d.length ca) e.d
  m : NRow w B (.slice b e.m.length cb) e.m
  dl : e.d.length ≤ 64
  ml : e.m.length ≤ 7

theorem Mine.has {w : World} {B : Nat} {e : Ent} {a b : Option Addr} {ca cb : Nat} (h : Mine w B e a ca b cb) : Has w e a ca b cb :=
  ⟨h.ok, h.d.bys, h.m.nums, by have := h.dl; omega, by have := h.ml; omega⟩

theorem row_to {w w' : World} {B : Nat} {v : Value} {l : List UInt8} (h : Row w B v l) (hk : ∀ k, v.ownBlock = some k → w'.heap[k]? = w.heap[k]?) : Row w' B v l := ownsRow_to h hk

theorem row_onlyR {w w' : World} {B R : Nat} {v : Value} {l : List UInt8} (h : Row w B v l) (hR : R < B) (ho : Only R w w') : Row w' B v l :=
  row_to h fun k hk => by
    have := World.ownsRow.lt h k hk
    exact ho.block k this.2 (by omega)

/-- In the midst of the reading: the reader, the block of the result and that of the entry. -/
structure In (w : World) (R G g2 g3 : Nat) (l r : List UInt8) (c3 : Array Value) (W : World) : Prop where
  at_ : At W R G l r
  only : Only R w W
  b2 : Blk W g2 42 zeroC
  b3 : Blk W g3 42 c3
  rw_ : R < w.heap.size
  gw : G ≤ w.heap.size
  h2 : w.heap.size ≤ g2
  h3 : w.heap.size ≤ g3
  ne : g2 ≠ g3

theorem In.call {w W W' : World} {R g2 g3 : Nat} {l r r' : List UInt8} {c3 : Array Value} (h : In w R G g2 g3 l r c3 W) (ha : At W' R G l r') (ho : Only R W W') : In w R G g2 g3 l r' c3 W' :=
  have h1 := h.rw_; have h2 := h.h2; have h3 := h.h3
  ⟨ha, h.only.trans ho, h.b2.onlyR ho (by omega), h.b3.onlyR ho (by omega), h.rw_, h.gw, h.h2, h.h3, h.ne⟩

theorem In.set {w W W' : World} {R g2 g3 : Nat} {l r : List UInt8} {c3 c3' : Array Value} (h : In w R G g2 g3 l r c3 W) (hb : Blk W' g3 42 c3') (ho : OnlyS (fun b => b = g3) W W') : In w R G g2 g3 l r c3' W' :=
  have h0 := h.rw_; have h1 := h.gw; have h2 := h.h2; have h3 := h.h3
  ⟨h.at_.only ho (fun b hb e => by omega) (by intro e; omega), h.only.wrote ho h.h3, h.b2.onlyS ho h.ne, hb, h.rw_, h.gw, h.h2, h.h3, h.ne⟩

/-- How the reading of an entry ends. -/
def EntEnd (G R : Nat) (l r : List UInt8) (w : World) (e : Ending) (w' : World) : Prop :=
  Only R w w' ∧ match gEnt r with
    | .ok (x, q) => ∃ a ca b cb, e = .returned (.agg (entC x a ca b cb)) ∧ Mine w' w.heap.size x a ca b cb ∧ At w' R G l q
    | .error c => e = .panicked (lostC c)

theorem conv_byte (k : Nat) (hk : k < 256) (W : World) : (convert 5 3 (.int .u8 (k : Int))).run Try.prog W = .ok (.int .i64 (k : Int)) W := by
  have hp : Try.prog.intKind 3 = .i64 := by kernel_rfl
  have h := run_convert_int (P := Try.prog) W 5 3 .u8 (k : Int) (by kernel_rfl) (by rw [hp]; exact Try.underlying3)
  rw [hp] at h
  have e : IntKind.i64.wrap (k : Int) = (k : Int) := by rw [IntKind.wrap_i64]; omega
  rw [h, e]

theorem row_wrote {w w' : World} {B g : Nat} {v : Value} {l : List UInt8} {cs : Array Value} (h : Row w B v l) (hb : Blk w g 42 cs) (ho : OnlyS (fun b => b = g) w w') : Row w' B v l :=
  row_to h fun k hk => ho.block k (World.ownsRow.lt h k hk).2 fun e => ownsRow_apart h hb (by decide) (e ▸ hk)

theorem nrow_wrote {w w' : World} {B g : Nat} {v : Value} {l : List Nat} {cs : Array Value} (h : NRow w B v l) (hb : Blk w g 42 cs) (ho : OnlyS (fun b => b = g) w w') : NRow w' B v l :=
  h.to fun k hk => ho.block k (World.ownsRow.lt h k hk).2 fun e => ownsRow_apart h hb (by decide) (e ▸ hk)

theorem entC_size (e : Ent) (a b : Option Addr) (ca cb : Nat) : (Try.prog.info? 42).map (·.size) = some (entC e a ca b cb).size := by
  have h : (Try.prog.info? 42).map (·.size) = some 6 := by kernel_rfl
  exact h

/-- The end: the entry is laid into the result. -/
theorem In.done {w W W' : World} {R g2 g3 : Nat} {l r : List UInt8} {c3 : Array Value} (h : In w R G g2 g3 l r c3 W) (ho : OnlyS (fun b => b = g2) W W') : At W' R G l r ∧ Only R w W' :=
  have h0 := h.rw_; have h1 := h.gw; have h2 := h.h2
  ⟨h.at_.only ho (fun b hb e => by omega) (by intro e; omega), h.only.wrote ho h.h2⟩

theorem nrow_low {w : World} {B B' : Nat} {v : Value} {l : List Nat} (h : NRow w B v l) (hB : B' ≤ B) : NRow w B' v l := by
  obtain ⟨h1, h2⟩ := h
  refine ⟨h1, h2.elim .inl fun ⟨g, cap, cur, hv, hb, r⟩ => .inr ⟨g, cap, cur, hv, Nat.le_trans hB hb, r⟩⟩

set_option maxHeartbeats 8000000 in
set_option maxRecDepth 100000 in
theorem entry_any {R : Nat} {l r : List UInt8} {w : World} (h : At w R G l r) :
    Calls Try.prog 104 #[.pointer (some ⟨R, 0, none⟩)] w (EntEnd G R l r w) := by
  have hlt := h.lt
  have b1 : Below w.heap.size w (w.alloc (.cells zeroC 42)) := (Below.refl _ _).alloc (Nat.le_refl _) _
  have h1 := h.below b1
  have E1 := Lib.hid (Blk.new w 42 zeroC)
  have HB1 := Lib.hid b1
  clear h b1
  cases hn : gNum r with
  | error c =>
    have hc := gNum_err hn
    have HE := Lib.hid (show gEnt r = .error c by simp only [gEnt, hn])
    have HN := Lib.hid (readNum_bad h1 hn)
    have HT := Lib.hid (fun w => takeNum_bad 0 c w (by omega))
    clear h1 hn hc
    go_enter Try.func104, Try.ntmps104
    go_wp2_with fail
    refine HN.out.mono ?_
    rintro e w2 ⟨rfl, ho⟩
    have HO := Lib.hid ((Only.of_below HB1.out).trans ho)
    clear ho
    go_wp2_with fail
    refine (HT.out _).mono ?_
    rintro e w3 ⟨rfl, rfl⟩
    refine ⟨rfl, HO.out, ?_⟩
    rw [HE.out]
  | ok p =>
    obtain ⟨t, q⟩ := p
    have ht64 := (gNum_back hn).1
    have HN := Lib.hid (readNum_ok h1 hn)
    have hct := fun W => isTerm_any t W ht64
    have hge : ∀ x, (1 ≤ t ∧ t ≤ 4611686018427387904) → gKind t q = x → gEnt r = x := fun x h e => by simp only [gEnt, hn, if_pos h, e]
    have hgb : ¬ (1 ≤ t ∧ t ≤ 4611686018427387904) → gEnt r = .error 3 := fun h => by simp only [gEnt, hn, if_neg h]
    have HGe := Lib.hid hge
    have HGb := Lib.hid hgb
    clear h1 hn hge hgb
    by_cases htt : 1 ≤ t ∧ t ≤ 4611686018427387904
    · rw [decide_eq_true htt] at hct
      have HC := Lib.hid hct
      have HG := Lib.hid (fun x e => HGe.out x htt e)
      clear hct htt
      cases hb : gByte q with
      | error c =>
        have hc : c = 2 := by cases q <;> simp [gByte] at hb; exact hb.symm
        subst hc
        have HE := Lib.hid (HG.out (.error 2) (by simp only [gKind, hb]))
        have HBy := Lib.hid (fun W (h : At W R G l q) => readByte_bad h hb)
        have HT := Lib.hid (fun w => takeByte_bad 0 2 w (by decide))
        clear hb
        go_enter Try.func104, Try.ntmps104
        go_wp2_with fail
        refine HN.out.mono ?_
        rintro e w2 ⟨rfl, ha, ho⟩
        have HA := Lib.hid ha
        have HO := Lib.hid ((Only.of_below HB1.out).trans ho)
        have E2 := Lib.hid (E1.out.onlyR ho (by omega))
        have hsz : w.heap.size ≤ w2.heap.size := HO.out.size
        clear ha ho
        go_wp2_with fail
        refine (takeNum_ok t _).mono ?_
        rintro e w2 ⟨rfl, rfl⟩
        go_wp2_with (refine wpList_store_all rfl 42 (.tmp 3) (.tmp 9) rfl w2.heap.size #[.int .u64 (t : Int), .int .i64 0, .int .u64 0, .int .u64 0, .slice none 0 0, .slice none 0 0] rfl rfl 42 zeroC (Blk.new w2 42 zeroC) (by kernel_rfl) rfl (by simp [Value.oneCell']) ?_; intro w3 hb hos; (have HI := Lib.hid (show In w R G w.heap.size w2.heap.size l q #[.int .u64 (t : Int), .int .i64 0, .int .u64 0, .int .u64 0, .slice none 0 0, .slice none 0 0] w3 from ⟨(HA.out.below ((Below.refl _ _).alloc (Nat.le_refl _) _)).only hos (fun b hb e => absurd (e ▸ hb) (by have := HA.out.lt; omega)) (fun e => absurd e (by have := HA.out.lt; omega)), (HO.out.alloc _).wrote hos hsz, ((E2.out).alloc _).onlyS hos (fun e => absurd e (by have := E2.out.lt; omega)), hb, hlt.1, hlt.2, Nat.le_refl _, hsz, fun e => absurd e (by have := E2.out.lt; omega)⟩)); (have k0 : w3.cell? ⟨w2.heap.size, 0, none⟩ = some (.int .u64 (t : Int)) := by rw [hb.cell]; rfl); clear hb hos)
        refine (HC.out _).mono ?_
        rintro e w4 ⟨rfl, rfl⟩
        go_wp2_with fail
        refine (ask_yes _).mono ?_
        rintro e w4 ⟨rfl, rfl⟩
        clear k0
        obtain ⟨g3, hg3⟩ : ∃ g3, g3 = w2.heap.size := ⟨_, rfl⟩
        rw [← hg3] at HI ⊢
        clear hg3 HA HO E2
        go_wp2_with fail
        refine (HBy.out _ HI.out.at_).mono ?_
        rintro e w5 ⟨rfl, ho⟩
        have HO5 := Lib.hid (HI.out.only.trans ho)
        clear ho
        go_wp2_with fail
        refine (HT.out _).mono ?_
        rintro e w6 ⟨rfl, rfl⟩
        refine ⟨rfl, HO5.out, ?_⟩
        rw [HE.out]
      | ok p =>
        obtain ⟨k, q2⟩ := p
        have hk := (gByte_back hb).1
        have HBy := Lib.hid (fun W (h : At W R G l q) => readByte_ok h hb)
        have hcv := conv_byte k hk
        have hgk : ∀ x, (if k = 1 then .ok (⟨t, 1, 0, 0, [], []⟩, q2) else if k = 2 then gPut t q2 else if k = 3 then gConf t q2 else .error 3) = x → gEnt r = x := fun x e => HG.out x (by simp only [gKind, hb, e])
        have HGk := Lib.hid hgk
        clear hb hgk
        by_cases k1' : k = 1
        · subst k1'
          have HE := Lib.hid (HGk.out _ (if_pos rfl))
          clear HG HGk
          go_enter Try.func104, Try.ntmps104
          go_wp2_with fail
          refine HN.out.mono ?_
          rintro e w2 ⟨rfl, ha, ho⟩
          have HA := Lib.hid ha
          have HO := Lib.hid ((Only.of_below HB1.out).trans ho)
          have E2 := Lib.hid (E1.out.onlyR ho (by omega))
          have hsz : w.heap.size ≤ w2.heap.size := HO.out.size
          clear ha ho
          go_wp2_with fail
          refine (takeNum_ok t _).mono ?_
          rintro e w2 ⟨rfl, rfl⟩
          go_wp2_with (refine wpList_store_all rfl 42 (.tmp 3) (.tmp 9) rfl w2.heap.size #[.int .u64 (t : Int), .int .i64 0, .int .u64 0, .int .u64 0, .slice none 0 0, .slice none 0 0] rfl rfl 42 zeroC (Blk.new w2 42 zeroC) (by kernel_rfl) rfl (by simp [Value.oneCell']) ?_; intro w3 hb hos; (have HI := Lib.hid (show In w R G w.heap.size w2.heap.size l q #[.int .u64 (t : Int), .int .i64 0, .int .u64 0, .int .u64 0, .slice none 0 0, .slice none 0 0] w3 from ⟨(HA.out.below ((Below.refl _ _).alloc (Nat.le_refl _) _)).only hos (fun b hb e => absurd (e ▸ hb) (by have := HA.out.lt; omega)) (fun e => absurd e (by have := HA.out.lt; omega)), (HO.out.alloc _).wrote hos hsz, ((E2.out).alloc _).onlyS hos (fun e => absurd e (by have := E2.out.lt; omega)), hb, hlt.1, hlt.2, Nat.le_refl _, hsz, fun e => absurd e (by have := E2.out.lt; omega)⟩)); (have k0 : w3.cell? ⟨w2.heap.size, 0, none⟩ = some (.int .u64 (t : Int)) := by rw [hb.cell]; rfl); clear hb hos)
          refine (HC.out _).mono ?_
          rintro e w4 ⟨rfl, rfl⟩
          go_wp2_with fail
          refine (ask_yes _).mono ?_
          rintro e w4 ⟨rfl, rfl⟩
          clear k0
          obtain ⟨g3, hg3⟩ : ∃ g3, g3 = w2.heap.size := ⟨_, rfl⟩
          rw [← hg3] at HI ⊢
          clear hg3 HA HO E2
          go_wp2_with fail
          refine (HBy.out _ HI.out.at_).mono ?_
          rintro e w5 ⟨rfl, ha, ho⟩
          have HI5 := Lib.hid (HI.out.call ha ho)
          clear ha ho
          go_wp2_with fail
          refine (takeByte_ok _ _).mono ?_
          rintro e w6 ⟨rfl, rfl⟩
          go_wp2_with (first | (refine wpList_store_fld rfl 3 (.tmp 20) (.tmp 19) rfl g3 1 (.int .i64 (((1 : Nat) : Int))) rfl rfl 42 _ #[.int .u64 (t : Int), .int .i64 (((1 : Nat) : Int)), .int .u64 0, .int .u64 0, .slice none 0 0, .slice none 0 0] HI5.out.b3 (by simp) rfl (by kernel_rfl) rfl ?_; intro w7 hb hos; (have HI7 := Lib.hid (HI5.out.set hb hos)); (have k1 : w7.cell? ⟨g3, 1, none⟩ = some (.int .i64 (((1 : Nat) : Int))) := by rw [hb.cell]; rfl); clear hb hos) | (refine wpList_load_by rfl 42 (.tmp 3) rfl _ _ rfl (HI7.out.b3.loads 42 _ Try.underlying42 rfl (by kernel_rfl)) ?_) | (refine wpList_store_all rfl 42 (.tmp 2) (.tmp 51) rfl w.heap.size #[.int .u64 (t : Int), .int .i64 (((1 : Nat) : Int)), .int .u64 0, .int .u64 0, .slice none 0 0, .slice none 0 0] rfl rfl 42 zeroC HI7.out.b2 (by kernel_rfl) rfl (by simp [Value.oneCell']) ?_; intro wz hbz hoz; (have HBz := Lib.hid hbz); (have HDz := Lib.hid (HI7.out.done hoz)); clear hbz hoz))
          have HF := Lib.hid (show EntEnd G R l r w (.returned (.agg #[.int .u64 (t : Int), .int .i64 (((1 : Nat) : Int)), .int .u64 0, .int .u64 0, .slice none 0 0, .slice none 0 0])) wz from ⟨HDz.out.2, by rw [HE.out]; exact ⟨none, 0, none, 0, rfl, ⟨⟨ht64, by simp, by simp, by simp, by simp, by simp⟩, World.ownsRow_nil _ _ _ _, World.ownsRow_nil _ _ _ _, by simp, by simp⟩, HDz.out.1⟩⟩)
          exact bodyPost_ret (v := .agg #[.int .u64 (t : Int), .int .i64 (((1 : Nat) : Int)), .int .u64 0, .int .u64 0, .slice none 0 0, .slice none 0 0]) (results_cell_row rfl _ _ w.heap.size 42 #[.int .u64 (t : Int), .int .i64 (((1 : Nat) : Int)), .int .u64 0, .int .u64 0, .slice none 0 0, .slice none 0 0] (0, 0) _ rfl HBz.out Try.underlying42 rfl (by kernel_rfl)) rfl HF.out
        · by_cases k2' : k = 2
          · subst k2'
            have hgp : ∀ x, gPut t q2 = x → gEnt r = x := fun x e => HGk.out x (by rw [if_neg (by decide), if_pos rfl, e])
            have HGp := Lib.hid hgp
            clear HG HGk hgp k1'
            cases hc : gNum q2 with
            | error x =>
              have hx := gNum_err hc
              have HE := Lib.hid (HGp.out (.error x) (by simp only [gPut, hc]))
              have HNc := Lib.hid (fun W (h : At W R G l q2) => readNum_bad h hc)
              have HT := Lib.hid (fun w => takeNum_bad 0 x w (by omega))
              clear hc hx
              go_enter Try.func104, Try.ntmps104
              go_wp2_with fail
              refine HN.out.mono ?_
              rintro e w2 ⟨rfl, ha, ho⟩
              have HA := Lib.hid ha
              have HO := Lib.hid ((Only.of_below HB1.out).trans ho)
              have E2 := Lib.hid (E1.out.onlyR ho (by omega))
              have hsz : w.heap.size ≤ w2.heap.size := HO.out.size
              clear ha ho
              go_wp2_with fail
              refine (takeNum_ok t _).mono ?_
              rintro e w2 ⟨rfl, rfl⟩
              go_wp2_with (refine wpList_store_all rfl 42 (.tmp 3) (.tmp 9) rfl w2.heap.size #[.int .u64 (t : Int), .int .i64 0, .int .u64 0, .int .u64 0, .slice none 0 0, .slice none 0 0] rfl rfl 42 zeroC (Blk.new w2 42 zeroC) (by kernel_rfl) rfl (by simp [Value.oneCell']) ?_; intro w3 hb hos; (have HI := Lib.hid (show In w R G w.heap.size w2.heap.size l q #[.int .u64 (t : Int), .int .i64 0, .int .u64 0, .int .u64 0, .slice none 0 0, .slice none 0 0] w3 from ⟨(HA.out.below ((Below.refl _ _).alloc (Nat.le_refl _) _)).only hos (fun b hb e => absurd (e ▸ hb) (by have := HA.out.lt; omega)) (fun e => absurd e (by have := HA.out.lt; omega)), (HO.out.alloc _).wrote hos hsz, ((E2.out).alloc _).onlyS hos (fun e => absurd e (by have := E2.out.lt; omega)), hb, hlt.1, hlt.2, Nat.le_refl _, hsz, fun e => absurd e (by have := E2.out.lt; omega)⟩)); (have k0 : w3.cell? ⟨w2.heap.size, 0, none⟩ = some (.int .u64 (t : Int)) := by rw [hb.cell]; rfl); clear hb hos)
              refine (HC.out _).mono ?_
              rintro e w4 ⟨rfl, rfl⟩
              go_wp2_with fail
              refine (ask_yes _).mono ?_
              rintro e w4 ⟨rfl, rfl⟩
              clear k0
              obtain ⟨g3, hg3⟩ : ∃ g3, g3 = w2.heap.size := ⟨_, rfl⟩
              rw [← hg3] at HI ⊢
              clear hg3 HA HO E2
              go_wp2_with fail
              refine (HBy.out _ HI.out.at_).mono ?_
              rintro e w5 ⟨rfl, ha, ho⟩
              have HI5 := Lib.hid (HI.out.call ha ho)
              clear ha ho
              go_wp2_with fail
              refine (takeByte_ok _ _).mono ?_
              rintro e w6 ⟨rfl, rfl⟩
              go_wp2_with (first | (refine wpList_store_fld rfl 3 (.tmp 20) (.tmp 19) rfl g3 1 (.int .i64 (((2 : Nat) : Int))) rfl rfl 42 _ #[.int .u64 (t : Int), .int .i64 (((2 : Nat) : Int)), .int .u64 0, .int .u64 0, .slice none 0 0, .slice none 0 0] HI5.out.b3 (by simp) rfl (by kernel_rfl) rfl ?_; intro w7 hb hos; (have HI7 := Lib.hid (HI5.out.set hb hos)); (have k1 : w7.cell? ⟨g3, 1, none⟩ = some (.int .i64 (((2 : Nat) : Int))) := by rw [hb.cell]; rfl); clear hb hos))
              refine (HNc.out _ HI7.out.at_).mono ?_
              rintro e wf ⟨rfl, ho⟩
              have HOf := Lib.hid (HI7.out.only.trans ho)
              clear ho
              go_wp2_with fail
              refine (HT.out _).mono ?_
              rintro e wg ⟨rfl, rfl⟩
              refine ⟨rfl, HOf.out, ?_⟩
              rw [HE.out]
            | ok p =>
              obtain ⟨c, q3⟩ := p
              have hc64 := (gNum_back hc).1
              have HNc := Lib.hid (fun W (h : At W R G l q2) => readNum_ok h hc)
              cases hs : gNum q3 with
              | error x =>
                have hx := gNum_err hs
                have HE := Lib.hid (HGp.out (.error x) (by simp only [gPut, hc, hs]))
                have HNs := Lib.hid (fun W (h : At W R G l q3) => readNum_bad h hs)
                have HT := Lib.hid (fun w => takeNum_bad 0 x w (by omega))
                clear hc hs hx
                go_enter Try.func104, Try.ntmps104
                go_wp2_with fail
                refine HN.out.mono ?_
                rintro e w2 ⟨rfl, ha, ho⟩
                have HA := Lib.hid ha
                have HO := Lib.hid ((Only.of_below HB1.out).trans ho)
                have E2 := Lib.hid (E1.out.onlyR ho (by omega))
                have hsz : w.heap.size ≤ w2.heap.size := HO.out.size
                clear ha ho
                go_wp2_with fail
                refine (takeNum_ok t _).mono ?_
                rintro e w2 ⟨rfl, rfl⟩
                go_wp2_with (refine wpList_store_all rfl 42 (.tmp 3) (.tmp 9) rfl w2.heap.size #[.int .u64 (t : Int), .int .i64 0, .int .u64 0, .int .u64 0, .slice none 0 0, .slice none 0 0] rfl rfl 42 zeroC (Blk.new w2 42 zeroC) (by kernel_rfl) rfl (by simp [Value.oneCell']) ?_; intro w3 hb hos; (have HI := Lib.hid (show In w R G w.heap.size w2.heap.size l q #[.int .u64 (t : Int), .int .i64 0, .int .u64 0, .int .u64 0, .slice none 0 0, .slice none 0 0] w3 from ⟨(HA.out.below ((Below.refl _ _).alloc (Nat.le_refl _) _)).only hos (fun b hb e => absurd (e ▸ hb) (by have := HA.out.lt; omega)) (fun e => absurd e (by have := HA.out.lt; omega)), (HO.out.alloc _).wrote hos hsz, ((E2.out).alloc _).onlyS hos (fun e => absurd e (by have := E2.out.lt; omega)), hb, hlt.1, hlt.2, Nat.le_refl _, hsz, fun e => absurd e (by have := E2.out.lt; omega)⟩)); (have k0 : w3.cell? ⟨w2.heap.size, 0, none⟩ = some (.int .u64 (t : Int)) := by rw [hb.cell]; rfl); clear hb hos)
                refine (HC.out _).mono ?_
                rintro e w4 ⟨rfl, rfl⟩
                go_wp2_with fail
                refine (ask_yes _).mono ?_
                rintro e w4 ⟨rfl, rfl⟩
                clear k0
                obtain ⟨g3, hg3⟩ : ∃ g3, g3 = w2.heap.size := ⟨_, rfl⟩
                rw [← hg3] at HI ⊢
                clear hg3 HA HO E2
                go_wp2_with fail
                refine (HBy.out _ HI.out.at_).mono ?_
                rintro e w5 ⟨rfl, ha, ho⟩
                have HI5 := Lib.hid (HI.out.call ha ho)
                clear ha ho
                go_wp2_with fail
                refine (takeByte_ok _ _).mono ?_
                rintro e w6 ⟨rfl, rfl⟩
                go_wp2_with (first | (refine wpList_store_fld rfl 3 (.tmp 20) (.tmp 19) rfl g3 1 (.int .i64 (((2 : Nat) : Int))) rfl rfl 42 _ #[.int .u64 (t : Int), .int .i64 (((2 : Nat) : Int)), .int .u64 0, .int .u64 0, .slice none 0 0, .slice none 0 0] HI5.out.b3 (by simp) rfl (by kernel_rfl) rfl ?_; intro w7 hb hos; (have HI7 := Lib.hid (HI5.out.set hb hos)); (have k1 : w7.cell? ⟨g3, 1, none⟩ = some (.int .i64 (((2 : Nat) : Int))) := by rw [hb.cell]; rfl); clear hb hos))
                refine (HNc.out _ HI7.out.at_).mono ?_
                rintro e w8 ⟨rfl, ha, ho⟩
                have HI8 := Lib.hid (HI7.out.call ha ho)
                clear ha ho k1
                go_wp2_with fail
                refine (takeNum_ok _ _).mono ?_
                rintro e w9 ⟨rfl, rfl⟩
                go_wp2_with (refine wpList_store_fld rfl 22 (.tmp 33) (.tmp 32) rfl g3 2 (.int .u64 (c : Int)) rfl rfl 42 _ #[.int .u64 (t : Int), .int .i64 (((2 : Nat) : Int)), .int .u64 (c : Int), .int .u64 0, .slice none 0 0, .slice none 0 0] HI8.out.b3 (by simp) rfl (by kernel_rfl) rfl ?_; intro w10 hb hos; (have HI10 := Lib.hid (HI8.out.set hb hos)); clear hb hos)
                refine (HNs.out _ HI10.out.at_).mono ?_
                rintro e wf ⟨rfl, ho⟩
                have HOf := Lib.hid (HI10.out.only.trans ho)
                clear ho
                go_wp2_with fail
                refine (HT.out _).mono ?_
                rintro e wg ⟨rfl, rfl⟩
                refine ⟨rfl, HOf.out, ?_⟩
                rw [HE.out]
              | ok p =>
                obtain ⟨s, q4⟩ := p
                have hs64 := (gNum_back hs).1
                have HNs := Lib.hid (fun W (h : At W R G l q3) => readNum_ok h hs)
                cases hd : gText 64 q4 with
                | error x =>
                  have hx := gText_err hd
                  have HE := Lib.hid (HGp.out (.error x) (by simp only [gPut, hc, hs, hd]))
                  have HNd := Lib.hid (fun W (h : At W R G l q4) => readRaw_bad h hd)
                  have HT := Lib.hid (fun v w => takeRaw_bad v x w (by omega))
                  clear hc hs hd hx
                  go_enter Try.func104, Try.ntmps104
                  go_wp2_with fail
                  refine HN.out.mono ?_
                  rintro e w2 ⟨rfl, ha, ho⟩
                  have HA := Lib.hid ha
                  have HO := Lib.hid ((Only.of_below HB1.out).trans ho)
                  have E2 := Lib.hid (E1.out.onlyR ho (by omega))
                  have hsz : w.heap.size ≤ w2.heap.size := HO.out.size
                  clear ha ho
                  go_wp2_with fail
                  refine (takeNum_ok t _).mono ?_
                  rintro e w2 ⟨rfl, rfl⟩
                  go_wp2_with (refine wpList_store_all rfl 42 (.tmp 3) (.tmp 9) rfl w2.heap.size #[.int .u64 (t : Int), .int .i64 0, .int .u64 0, .int .u64 0, .slice none 0 0, .slice none 0 0] rfl rfl 42 zeroC (Blk.new w2 42 zeroC) (by kernel_rfl) rfl (by simp [Value.oneCell']) ?_; intro w3 hb hos; (have HI := Lib.hid (show In w R G w.heap.size w2.heap.size l q #[.int .u64 (t : Int), .int .i64 0, .int .u64 0, .int .u64 0, .slice none 0 0, .slice none 0 0] w3 from ⟨(HA.out.below ((Below.refl _ _).alloc (Nat.le_refl _) _)).only hos (fun b hb e => absurd (e ▸ hb) (by have := HA.out.lt; omega)) (fun e => absurd e (by have := HA.out.lt; omega)), (HO.out.alloc _).wrote hos hsz, ((E2.out).alloc _).onlyS hos (fun e => absurd e (by have := E2.out.lt; omega)), hb, hlt.1, hlt.2, Nat.le_refl _, hsz, fun e => absurd e (by have := E2.out.lt; omega)⟩)); (have k0 : w3.cell? ⟨w2.heap.size, 0, none⟩ = some (.int .u64 (t : Int)) := by rw [hb.cell]; rfl); clear hb hos)
                  refine (HC.out _).mono ?_
                  rintro e w4 ⟨rfl, rfl⟩
                  go_wp2_with fail
                  refine (ask_yes _).mono ?_
                  rintro e w4 ⟨rfl, rfl⟩
                  clear k0
                  obtain ⟨g3, hg3⟩ : ∃ g3, g3 = w2.heap.size := ⟨_, rfl⟩
                  rw [← hg3] at HI ⊢
                  clear hg3 HA HO E2
                  go_wp2_with fail
                  refine (HBy.out _ HI.out.at_).mono ?_
                  rintro e w5 ⟨rfl, ha, ho⟩
                  have HI5 := Lib.hid (HI.out.call ha ho)
                  clear ha ho
                  go_wp2_with fail
                  refine (takeByte_ok _ _).mono ?_
                  rintro e w6 ⟨rfl, rfl⟩
                  go_wp2_with (first | (refine wpList_store_fld rfl 3 (.tmp 20) (.tmp 19) rfl g3 1 (.int .i64 (((2 : Nat) : Int))) rfl rfl 42 _ #[.int .u64 (t : Int), .int .i64 (((2 : Nat) : Int)), .int .u64 0, .int .u64 0, .slice none 0 0, .slice none 0 0] HI5.out.b3 (by simp) rfl (by kernel_rfl) rfl ?_; intro w7 hb hos; (have HI7 := Lib.hid (HI5.out.set hb hos)); (have k1 : w7.cell? ⟨g3, 1, none⟩ = some (.int .i64 (((2 : Nat) : Int))) := by rw [hb.cell]; rfl); clear hb hos))
                  refine (HNc.out _ HI7.out.at_).mono ?_
                  rintro e w8 ⟨rfl, ha, ho⟩
                  have HI8 := Lib.hid (HI7.out.call ha ho)
                  clear ha ho k1
                  go_wp2_with fail
                  refine (takeNum_ok _ _).mono ?_
                  rintro e w9 ⟨rfl, rfl⟩
                  go_wp2_with (refine wpList_store_fld rfl 22 (.tmp 33) (.tmp 32) rfl g3 2 (.int .u64 (c : Int)) rfl rfl 42 _ #[.int .u64 (t : Int), .int .i64 (((2 : Nat) : Int)), .int .u64 (c : Int), .int .u64 0, .slice none 0 0, .slice none 0 0] HI8.out.b3 (by simp) rfl (by kernel_rfl) rfl ?_; intro w10 hb hos; (have HI10 := Lib.hid (HI8.out.set hb hos)); clear hb hos)
                  refine (HNs.out _ HI10.out.at_).mono ?_
                  rintro e w11 ⟨rfl, ha, ho⟩
                  have HI11 := Lib.hid (HI10.out.call ha ho)
                  clear ha ho
                  go_wp2_with fail
                  refine (takeNum_ok _ _).mono ?_
                  rintro e w12 ⟨rfl, rfl⟩
                  go_wp2_with (refine wpList_store_fld rfl 22 (.tmp 39) (.tmp 38) rfl g3 3 (.int .u64 (s : Int)) rfl rfl 42 _ #[.int .u64 (t : Int), .int .i64 (((2 : Nat) : Int)), .int .u64 (c : Int), .int .u64 (s : Int), .slice none 0 0, .slice none 0 0] HI11.out.b3 (by simp) rfl (by kernel_rfl) rfl ?_; intro w13 hb hos; (have HI13 := Lib.hid (HI11.out.set hb hos)); clear hb hos)
                  refine (HNd.out _ HI13.out.at_).mono ?_
                  rintro e wf ⟨v, rfl, -, ho⟩
                  have HOf := Lib.hid (HI13.out.only.trans ho)
                  clear ho
                  go_wp2_with fail
                  refine (HT.out _ _).mono ?_
                  rintro e wg ⟨rfl, rfl⟩
                  refine ⟨rfl, HOf.out, ?_⟩
                  rw [HE.out]
                | ok p =>
                  obtain ⟨d, q5⟩ := p
                  have hd64 := (gText_back hd).1
                  have HE := Lib.hid (HGp.out (.ok (⟨t, 2, c, s, d, []⟩, q5)) (by simp only [gPut, hc, hs, hd]))
                  have HNd := Lib.hid (fun W (h : At W R G l q4) => readRaw_ok h hd)
                  clear hc hs hd
                  go_enter Try.func104, Try.ntmps104
                  go_wp2_with fail
                  refine HN.out.mono ?_
                  rintro e w2 ⟨rfl, ha, ho⟩
                  have HA := Lib.hid ha
                  have HO := Lib.hid ((Only.of_below HB1.out).trans ho)
                  have E2 := Lib.hid (E1.out.onlyR ho (by omega))
                  have hsz : w.heap.size ≤ w2.heap.size := HO.out.size
                  clear ha ho
                  go_wp2_with fail
                  refine (takeNum_ok t _).mono ?_
                  rintro e w2 ⟨rfl, rfl⟩
                  go_wp2_with (refine wpList_store_all rfl 42 (.tmp 3) (.tmp 9) rfl w2.heap.size #[.int .u64 (t : Int), .int .i64 0, .int .u64 0, .int .u64 0, .slice none 0 0, .slice none 0 0] rfl rfl 42 zeroC (Blk.new w2 42 zeroC) (by kernel_rfl) rfl (by simp [Value.oneCell']) ?_; intro w3 hb hos; (have HI := Lib.hid (show In w R G w.heap.size w2.heap.size l q #[.int .u64 (t : Int), .int .i64 0, .int .u64 0, .int .u64 0, .slice none 0 0, .slice none 0 0] w3 from ⟨(HA.out.below ((Below.refl _ _).alloc (Nat.le_refl _) _)).only hos (fun b hb e => absurd (e ▸ hb) (by have := HA.out.lt; omega)) (fun e => absurd e (by have := HA.out.lt; omega)), (HO.out.alloc _).wrote hos hsz, ((E2.out).alloc _).onlyS hos (fun e => absurd e (by have := E2.out.lt; omega)), hb, hlt.1, hlt.2, Nat.le_refl _, hsz, fun e => absurd e (by have := E2.out.lt; omega)⟩)); (have k0 : w3.cell? ⟨w2.heap.size, 0, none⟩ = some (.int .u64 (t : Int)) := by rw [hb.cell]; rfl); clear hb hos)
                  refine (HC.out _).mono ?_
                  rintro e w4 ⟨rfl, rfl⟩
                  go_wp2_with fail
                  refine (ask_yes _).mono ?_
                  rintro e w4 ⟨rfl, rfl⟩
                  clear k0
                  obtain ⟨g3, hg3⟩ : ∃ g3, g3 = w2.heap.size := ⟨_, rfl⟩
                  rw [← hg3] at HI ⊢
                  clear hg3 HA HO E2
                  go_wp2_with fail
                  refine (HBy.out _ HI.out.at_).mono ?_
                  rintro e w5 ⟨rfl, ha, ho⟩
                  have HI5 := Lib.hid (HI.out.call ha ho)
                  clear ha ho
                  go_wp2_with fail
                  refine (takeByte_ok _ _).mono ?_
                  rintro e w6 ⟨rfl, rfl⟩
                  go_wp2_with (first | (refine wpList_store_fld rfl 3 (.tmp 20) (.tmp 19) rfl g3 1 (.int .i64 (((2 : Nat) : Int))) rfl rfl 42 _ #[.int .u64 (t : Int), .int .i64 (((2 : Nat) : Int)), .int .u64 0, .int .u64 0, .slice none 0 0, .slice none 0 0] HI5.out.b3 (by simp) rfl (by kernel_rfl) rfl ?_; intro w7 hb hos; (have HI7 := Lib.hid (HI5.out.set hb hos)); (have k1 : w7.cell? ⟨g3, 1, none⟩ = some (.int .i64 (((2 : Nat) : Int))) := by rw [hb.cell]; rfl); clear hb hos))
                  refine (HNc.out _ HI7.out.at_).mono ?_
                  rintro e w8 ⟨rfl, ha, ho⟩
                  have HI8 := Lib.hid (HI7.out.call ha ho)
                  clear ha ho k1
                  go_wp2_with fail
                  refine (takeNum_ok _ _).mono ?_
                  rintro e w9 ⟨rfl, rfl⟩
                  go_wp2_with (refine wpList_store_fld rfl 22 (.tmp 33) (.tmp 32) rfl g3 2 (.int .u64 (c : Int)) rfl rfl 42 _ #[.int .u64 (t : Int), .int .i64 (((2 : Nat) : Int)), .int .u64 (c : Int), .int .u64 0, .slice none 0 0, .slice none 0 0] HI8.out.b3 (by simp) rfl (by kernel_rfl) rfl ?_; intro w10 hb hos; (have HI10 := Lib.hid (HI8.out.set hb hos)); clear hb hos)
                  refine (HNs.out _ HI10.out.at_).mono ?_
                  rintro e w11 ⟨rfl, ha, ho⟩
                  have HI11 := Lib.hid (HI10.out.call ha ho)
                  clear ha ho
                  go_wp2_with fail
                  refine (takeNum_ok _ _).mono ?_
                  rintro e w12 ⟨rfl, rfl⟩
                  go_wp2_with (refine wpList_store_fld rfl 22 (.tmp 39) (.tmp 38) rfl g3 3 (.int .u64 (s : Int)) rfl rfl 42 _ #[.int .u64 (t : Int), .int .i64 (((2 : Nat) : Int)), .int .u64 (c : Int), .int .u64 (s : Int), .slice none 0 0, .slice none 0 0] HI11.out.b3 (by simp) rfl (by kernel_rfl) rfl ?_; intro w13 hb hos; (have HI13 := Lib.hid (HI11.out.set hb hos)); clear hb hos)
                  refine (HNd.out _ HI13.out.at_).mono ?_
                  rintro e w14 ⟨v, rfl, hr, ha, ho⟩
                  obtain ⟨ad, cd, rfl⟩ := slice_of_row hr
                  have HI14 := Lib.hid (HI13.out.call ha ho)
                  have HR14 := Lib.hid (row_low hr HI13.out.only.size)
                  clear ha ho hr
                  go_wp2_with fail
                  refine (takeRaw_ok _ _).mono ?_
                  rintro e w15 ⟨rfl, rfl⟩
                  go_wp2_with (first | (refine wpList_store_fld rfl 25 (.tmp 45) (.tmp 44) rfl g3 4 (.slice ad d.length cd) rfl rfl 42 _ #[.int .u64 (t : Int), .int .i64 (((2 : Nat) : Int)), .int .u64 (c : Int), .int .u64 (s : Int), .slice ad d.length cd, .slice none 0 0] HI14.out.b3 (by simp) rfl (by kernel_rfl) rfl ?_; intro w16 hb hos; (have HI16 := Lib.hid (HI14.out.set hb hos)); (have HR16 := Lib.hid (row_wrote HR14.out HI14.out.b3 hos)); clear hb hos) | (refine wpList_load_by rfl 42 (.tmp 3) rfl _ _ rfl (HI16.out.b3.loads 42 _ Try.underlying42 rfl (by kernel_rfl)) ?_) | (refine wpList_store_all rfl 42 (.tmp 2) (.tmp 51) rfl w.heap.size #[.int .u64 (t : Int), .int .i64 (((2 : Nat) : Int)), .int .u64 (c : Int), .int .u64 (s : Int), .slice ad d.length cd, .slice none 0 0] rfl rfl 42 zeroC HI16.out.b2 (by kernel_rfl) rfl (by simp [Value.oneCell']) ?_; intro wz hbz hoz; (have HBz := Lib.hid hbz); (have HDz := Lib.hid (HI16.out.done hoz)); (have HRz := Lib.hid (row_wrote HR16.out HI16.out.b2 hoz)); clear hbz hoz))
                  have HF := Lib.hid (show EntEnd G R l r w (.returned (.agg #[.int .u64 (t : Int), .int .i64 (((2 : Nat) : Int)), .int .u64 (c : Int), .int .u64 (s : Int), .slice ad d.length cd, .slice none 0 0])) wz from ⟨HDz.out.2, by rw [HE.out]; exact ⟨ad, cd, none, 0, rfl, ⟨⟨ht64, by simp, by simp, hc64, hs64, by simp⟩, HRz.out, World.ownsRow_nil _ _ _ _, hd64, by simp⟩, HDz.out.1⟩⟩)
                  exact bodyPost_ret (v := .agg #[.int .u64 (t : Int), .int .i64 (((2 : Nat) : Int)), .int .u64 (c : Int), .int .u64 (s : Int), .slice ad d.length cd, .slice none 0 0]) (results_cell_row rfl _ _ w.heap.size 42 #[.int .u64 (t : Int), .int .i64 (((2 : Nat) : Int)), .int .u64 (c : Int), .int .u64 (s : Int), .slice ad d.length cd, .slice none 0 0] (0, 0) _ rfl HBz.out Try.underlying42 rfl (by kernel_rfl)) rfl HF.out
          · by_cases k3' : k = 3
            · subst k3'
              have hgp : ∀ x, gConf t q2 = x → gEnt r = x := fun x e => HGk.out x (by rw [if_neg (by decide), if_neg (by decide), if_pos rfl, e])
              have HGp := Lib.hid hgp
              have HMe := Lib.hid (fun W (h : At W R G l q2) => rmembers_any h)
              clear HG HGk hgp k1' k2'
              cases hm : gMem q2 with
              | error x =>
                have HE := Lib.hid (HGp.out (.error x) (by simp only [gConf, hm]))
                have HGm := Lib.hid hm
                clear hm
                go_enter Try.func104, Try.ntmps104
                go_wp2_with fail
                refine HN.out.mono ?_
                rintro e w2 ⟨rfl, ha, ho⟩
                have HA := Lib.hid ha
                have HO := Lib.hid ((Only.of_below HB1.out).trans ho)
                have E2 := Lib.hid (E1.out.onlyR ho (by omega))
                have hsz : w.heap.size ≤ w2.heap.size := HO.out.size
                clear ha ho
                go_wp2_with fail
                refine (takeNum_ok t _).mono ?_
                rintro e w2 ⟨rfl, rfl⟩
                go_wp2_with (refine wpList_store_all rfl 42 (.tmp 3) (.tmp 9) rfl w2.heap.size #[.int .u64 (t : Int), .int .i64 0, .int .u64 0, .int .u64 0, .slice none 0 0, .slice none 0 0] rfl rfl 42 zeroC (Blk.new w2 42 zeroC) (by kernel_rfl) rfl (by simp [Value.oneCell']) ?_; intro w3 hb hos; (have HI := Lib.hid (show In w R G w.heap.size w2.heap.size l q #[.int .u64 (t : Int), .int .i64 0, .int .u64 0, .int .u64 0, .slice none 0 0, .slice none 0 0] w3 from ⟨(HA.out.below ((Below.refl _ _).alloc (Nat.le_refl _) _)).only hos (fun b hb e => absurd (e ▸ hb) (by have := HA.out.lt; omega)) (fun e => absurd e (by have := HA.out.lt; omega)), (HO.out.alloc _).wrote hos hsz, ((E2.out).alloc _).onlyS hos (fun e => absurd e (by have := E2.out.lt; omega)), hb, hlt.1, hlt.2, Nat.le_refl _, hsz, fun e => absurd e (by have := E2.out.lt; omega)⟩)); (have k0 : w3.cell? ⟨w2.heap.size, 0, none⟩ = some (.int .u64 (t : Int)) := by rw [hb.cell]; rfl); clear hb hos)
                refine (HC.out _).mono ?_
                rintro e w4 ⟨rfl, rfl⟩
                go_wp2_with fail
                refine (ask_yes _).mono ?_
                rintro e w4 ⟨rfl, rfl⟩
                clear k0
                obtain ⟨g3, hg3⟩ : ∃ g3, g3 = w2.heap.size := ⟨_, rfl⟩
                rw [← hg3] at HI ⊢
                clear hg3 HA HO E2
                go_wp2_with fail
                refine (HBy.out _ HI.out.at_).mono ?_
                rintro e w5 ⟨rfl, ha, ho⟩
                have HI5 := Lib.hid (HI.out.call ha ho)
                clear ha ho
                go_wp2_with fail
                refine (takeByte_ok _ _).mono ?_
                rintro e w6 ⟨rfl, rfl⟩
                go_wp2_with (first | (refine wpList_store_fld rfl 3 (.tmp 20) (.tmp 19) rfl g3 1 (.int .i64 (((3 : Nat) : Int))) rfl rfl 42 _ #[.int .u64 (t : Int), .int .i64 (((3 : Nat) : Int)), .int .u64 0, .int .u64 0, .slice none 0 0, .slice none 0 0] HI5.out.b3 (by simp) rfl (by kernel_rfl) rfl ?_; intro w7 hb hos; (have HI7 := Lib.hid (HI5.out.set hb hos)); (have k1 : w7.cell? ⟨g3, 1, none⟩ = some (.int .i64 (((3 : Nat) : Int))) := by rw [hb.cell]; rfl); clear hb hos))
                refine (HMe.out _ HI7.out.at_).mono ?_
                rintro e w8 ⟨ho, hx⟩
                rw [HGm.out] at hx
                obtain rfl := hx
                have HOf := Lib.hid (HI7.out.only.trans ho)
                clear ho
                refine ⟨rfl, HOf.out, ?_⟩
                rw [HE.out]
              | ok p =>
                obtain ⟨m, q3⟩ := p
                have HE := Lib.hid (HGp.out (.ok (⟨t, 3, 0, 0, [], m⟩, q3)) (by simp only [gConf, hm]))
                have hm7 := (memOk_len (gMem_back hm).1).2
                have hmr : ∀ x ∈ m, x < 18446744073709551616 := fun x hx => by
                  have h := (gMem_back hm).1
                  simp [memOk] at h
                  have := rises_lt m 0 h.2 x hx
                  omega
                have HMr := Lib.hid hmr
                have HGm := Lib.hid hm
                clear hm hmr
                go_enter Try.func104, Try.ntmps104
                go_wp2_with fail
                refine HN.out.mono ?_
                rintro e w2 ⟨rfl, ha, ho⟩
                have HA := Lib.hid ha
                have HO := Lib.hid ((Only.of_below HB1.out).trans ho)
                have E2 := Lib.hid (E1.out.onlyR ho (by omega))
                have hsz : w.heap.size ≤ w2.heap.size := HO.out.size
                clear ha ho
                go_wp2_with fail
                refine (takeNum_ok t _).mono ?_
                rintro e w2 ⟨rfl, rfl⟩
                go_wp2_with (refine wpList_store_all rfl 42 (.tmp 3) (.tmp 9) rfl w2.heap.size #[.int .u64 (t : Int), .int .i64 0, .int .u64 0, .int .u64 0, .slice none 0 0, .slice none 0 0] rfl rfl 42 zeroC (Blk.new w2 42 zeroC) (by kernel_rfl) rfl (by simp [Value.oneCell']) ?_; intro w3 hb hos; (have HI := Lib.hid (show In w R G w.heap.size w2.heap.size l q #[.int .u64 (t : Int), .int .i64 0, .int .u64 0, .int .u64 0, .slice none 0 0, .slice none 0 0] w3 from ⟨(HA.out.below ((Below.refl _ _).alloc (Nat.le_refl _) _)).only hos (fun b hb e => absurd (e ▸ hb) (by have := HA.out.lt; omega)) (fun e => absurd e (by have := HA.out.lt; omega)), (HO.out.alloc _).wrote hos hsz, ((E2.out).alloc _).onlyS hos (fun e => absurd e (by have := E2.out.lt; omega)), hb, hlt.1, hlt.2, Nat.le_refl _, hsz, fun e => absurd e (by have := E2.out.lt; omega)⟩)); (have k0 : w3.cell? ⟨w2.heap.size, 0, none⟩ = some (.int .u64 (t : Int)) := by rw [hb.cell]; rfl); clear hb hos)
                refine (HC.out _).mono ?_
                rintro e w4 ⟨rfl, rfl⟩
                go_wp2_with fail
                refine (ask_yes _).mono ?_
                rintro e w4 ⟨rfl, rfl⟩
                clear k0
                obtain ⟨g3, hg3⟩ : ∃ g3, g3 = w2.heap.size := ⟨_, rfl⟩
                rw [← hg3] at HI ⊢
                clear hg3 HA HO E2
                go_wp2_with fail
                refine (HBy.out _ HI.out.at_).mono ?_
                rintro e w5 ⟨rfl, ha, ho⟩
                have HI5 := Lib.hid (HI.out.call ha ho)
                clear ha ho
                go_wp2_with fail
                refine (takeByte_ok _ _).mono ?_
                rintro e w6 ⟨rfl, rfl⟩
                go_wp2_with (first | (refine wpList_store_fld rfl 3 (.tmp 20) (.tmp 19) rfl g3 1 (.int .i64 (((3 : Nat) : Int))) rfl rfl 42 _ #[.int .u64 (t : Int), .int .i64 (((3 : Nat) : Int)), .int .u64 0, .int .u64 0, .slice none 0 0, .slice none 0 0] HI5.out.b3 (by simp) rfl (by kernel_rfl) rfl ?_; intro w7 hb hos; (have HI7 := Lib.hid (HI5.out.set hb hos)); (have k1 : w7.cell? ⟨g3, 1, none⟩ = some (.int .i64 (((3 : Nat) : Int))) := by rw [hb.cell]; rfl); clear hb hos))
                refine (HMe.out _ HI7.out.at_).mono ?_
                rintro e w8 ⟨ho, hx⟩
                rw [HGm.out] at hx
                obtain ⟨v, rfl, hr, ha⟩ := hx
                obtain ⟨am, cm, rfl⟩ := hr.nums.shape
                have HI8 := Lib.hid (HI7.out.call ha ho)
                have HR8 := Lib.hid (nrow_low hr HI7.out.only.size)
                clear ho hr ha k1
                go_wp2_with (first | (refine wpList_store_fld rfl 24 (.tmp 50) (.tmp 49) rfl g3 5 (.slice am m.length cm) rfl rfl 42 _ #[.int .u64 (t : Int), .int .i64 (((3 : Nat) : Int)), .int .u64 0, .int .u64 0, .slice none 0 0, .slice am m.length cm] HI8.out.b3 (by simp) rfl (by kernel_rfl) rfl ?_; intro w9 hb hos; (have HI9 := Lib.hid (HI8.out.set hb hos)); (have HR9 := Lib.hid (nrow_wrote HR8.out HI8.out.b3 hos)); clear hb hos) | (refine wpList_load_by rfl 42 (.tmp 3) rfl _ _ rfl (HI9.out.b3.loads 42 _ Try.underlying42 rfl (by kernel_rfl)) ?_) | (refine wpList_store_all rfl 42 (.tmp 2) (.tmp 51) rfl w.heap.size #[.int .u64 (t : Int), .int .i64 (((3 : Nat) : Int)), .int .u64 0, .int .u64 0, .slice none 0 0, .slice am m.length cm] rfl rfl 42 zeroC HI9.out.b2 (by kernel_rfl) rfl (by simp [Value.oneCell']) ?_; intro wz hbz hoz; (have HBz := Lib.hid hbz); (have HDz := Lib.hid (HI9.out.done hoz)); (have HRz := Lib.hid (nrow_wrote HR9.out HI9.out.b2 hoz)); clear hbz hoz))
                have HF := Lib.hid (show EntEnd G R l r w (.returned (.agg #[.int .u64 (t : Int), .int .i64 (((3 : Nat) : Int)), .int .u64 0, .int .u64 0, .slice none 0 0, .slice am m.length cm])) wz from ⟨HDz.out.2, by rw [HE.out]; exact ⟨none, 0, am, cm, rfl, ⟨⟨ht64, by simp, by simp, by simp, by simp, HMr.out⟩, World.ownsRow_nil _ _ _ _, HRz.out, by simp, hm7⟩, HDz.out.1⟩⟩)
                exact bodyPost_ret (v := .agg #[.int .u64 (t : Int), .int .i64 (((3 : Nat) : Int)), .int .u64 0, .int .u64 0, .slice none 0 0, .slice am m.length cm]) (results_cell_row rfl _ _ w.heap.size 42 #[.int .u64 (t : Int), .int .i64 (((3 : Nat) : Int)), .int .u64 0, .int .u64 0, .slice none 0 0, .slice am m.length cm] (0, 0) _ rfl HBz.out Try.underlying42 rfl (by kernel_rfl)) rfl HF.out
            · have HE := Lib.hid (HGk.out (.error 3) (by rw [if_neg k1', if_neg k2', if_neg k3']))
              have e1 : (((k : Nat) : Int) == 1) = false := beq_false_of_ne (by omega)
              have e2 : (((k : Nat) : Int) == 2) = false := beq_false_of_ne (by omega)
              have e3 : (((k : Nat) : Int) == 3) = false := beq_false_of_ne (by omega)
              clear HG HGk
              go_enter Try.func104, Try.ntmps104
              go_wp2_with fail
              refine HN.out.mono ?_
              rintro e w2 ⟨rfl, ha, ho⟩
              have HA := Lib.hid ha
              have HO := Lib.hid ((Only.of_below HB1.out).trans ho)
              have E2 := Lib.hid (E1.out.onlyR ho (by omega))
              have hsz : w.heap.size ≤ w2.heap.size := HO.out.size
              clear ha ho
              go_wp2_with fail
              refine (takeNum_ok t _).mono ?_
              rintro e w2 ⟨rfl, rfl⟩
              go_wp2_with (refine wpList_store_all rfl 42 (.tmp 3) (.tmp 9) rfl w2.heap.size #[.int .u64 (t : Int), .int .i64 0, .int .u64 0, .int .u64 0, .slice none 0 0, .slice none 0 0] rfl rfl 42 zeroC (Blk.new w2 42 zeroC) (by kernel_rfl) rfl (by simp [Value.oneCell']) ?_; intro w3 hb hos; (have HI := Lib.hid (show In w R G w.heap.size w2.heap.size l q #[.int .u64 (t : Int), .int .i64 0, .int .u64 0, .int .u64 0, .slice none 0 0, .slice none 0 0] w3 from ⟨(HA.out.below ((Below.refl _ _).alloc (Nat.le_refl _) _)).only hos (fun b hb e => absurd (e ▸ hb) (by have := HA.out.lt; omega)) (fun e => absurd e (by have := HA.out.lt; omega)), (HO.out.alloc _).wrote hos hsz, ((E2.out).alloc _).onlyS hos (fun e => absurd e (by have := E2.out.lt; omega)), hb, hlt.1, hlt.2, Nat.le_refl _, hsz, fun e => absurd e (by have := E2.out.lt; omega)⟩)); (have k0 : w3.cell? ⟨w2.heap.size, 0, none⟩ = some (.int .u64 (t : Int)) := by rw [hb.cell]; rfl); clear hb hos)
              refine (HC.out _).mono ?_
              rintro e w4 ⟨rfl, rfl⟩
              go_wp2_with fail
              refine (ask_yes _).mono ?_
              rintro e w4 ⟨rfl, rfl⟩
              clear k0
              obtain ⟨g3, hg3⟩ : ∃ g3, g3 = w2.heap.size := ⟨_, rfl⟩
              rw [← hg3] at HI ⊢
              clear hg3 HA HO E2
              go_wp2_with fail
              refine (HBy.out _ HI.out.at_).mono ?_
              rintro e w5 ⟨rfl, ha, ho⟩
              have HI5 := Lib.hid (HI.out.call ha ho)
              clear ha ho
              go_wp2_with fail
              refine (takeByte_ok _ _).mono ?_
              rintro e w6 ⟨rfl, rfl⟩
              go_wp2_with (first | (refine wpList_store_fld rfl 3 (.tmp 20) (.tmp 19) rfl g3 1 (.int .i64 ((k : Int))) rfl rfl 42 _ #[.int .u64 (t : Int), .int .i64 ((k : Int)), .int .u64 0, .int .u64 0, .slice none 0 0, .slice none 0 0] HI5.out.b3 (by simp) rfl (by kernel_rfl) rfl ?_; intro w7 hb hos; (have HI7 := Lib.hid (HI5.out.set hb hos)); (have k1 : w7.cell? ⟨g3, 1, none⟩ = some (.int .i64 ((k : Int))) := by rw [hb.cell]; rfl); clear hb hos))
              refine (must_bad 3 _ (by decide)).mono ?_
              rintro e w8 ⟨rfl, rfl⟩
              refine ⟨rfl, HI7.out.only, ?_⟩
              rw [HE.out]
    · rw [decide_eq_false htt] at hct
      have HC := Lib.hid hct
      have HE := Lib.hid (HGb.out htt)
      clear hct htt
      go_enter Try.func104, Try.ntmps104
      go_wp2_with fail
      refine HN.out.mono ?_
      rintro e w2 ⟨rfl, ha, ho⟩
      have HA := Lib.hid ha
      have HO := Lib.hid ((Only.of_below HB1.out).trans ho)
      have E2 := Lib.hid (E1.out.onlyR ho (by omega))
      have hsz : w.heap.size ≤ w2.heap.size := HO.out.size
      clear ha ho
      go_wp2_with fail
      refine (takeNum_ok t _).mono ?_
      rintro e w2 ⟨rfl, rfl⟩
      go_wp2_with (refine wpList_store_all rfl 42 (.tmp 3) (.tmp 9) rfl w2.heap.size #[.int .u64 (t : Int), .int .i64 0, .int .u64 0, .int .u64 0, .slice none 0 0, .slice none 0 0] rfl rfl 42 zeroC (Blk.new w2 42 zeroC) (by kernel_rfl) rfl (by simp [Value.oneCell']) ?_; intro w3 hb hos; (have HI := Lib.hid (show In w R G w.heap.size w2.heap.size l q #[.int .u64 (t : Int), .int .i64 0, .int .u64 0, .int .u64 0, .slice none 0 0, .slice none 0 0] w3 from ⟨(HA.out.below ((Below.refl _ _).alloc (Nat.le_refl _) _)).only hos (fun b hb e => absurd (e ▸ hb) (by have := HA.out.lt; omega)) (fun e => absurd e (by have := HA.out.lt; omega)), (HO.out.alloc _).wrote hos hsz, ((E2.out).alloc _).onlyS hos (fun e => absurd e (by have := E2.out.lt; omega)), hb, hlt.1, hlt.2, Nat.le_refl _, hsz, fun e => absurd e (by have := E2.out.lt; omega)⟩)); (have k0 : w3.cell? ⟨w2.heap.size, 0, none⟩ = some (.int .u64 (t : Int)) := by rw [hb.cell]; rfl); clear hb hos)
      refine (HC.out _).mono ?_
      rintro e w4 ⟨rfl, rfl⟩
      go_wp2_with fail
      refine (ask_no _).mono ?_
      rintro e w4 ⟨rfl, rfl⟩
      refine ⟨rfl, HI.out.only, ?_⟩
      rw [HE.out]

end Go.Proofs.Ytidapdooiibfnaa

/- Entries wherever they lie: an entry and its slices' addresses, lists of them. -/
namespace Go.Proofs.Ytidapdooiibfnaa
set_option maxRecDepth 20000
open Go.RowKit Go.Maps
open CmdMath (Ent)

/-- An entry, and where its slices lie. -/
structure EE where
  e : Ent
  a : Option Addr
  ca : Nat
  b : Option Addr
  cb : Nat

def EE.cells (u : EE) : List Value := (entC u.e u.a u.ca u.b u.cb).toList

theorem EE.cells_len (u : EE) : u.cells.length = 6 := rfl

theorem info_ent : (Try.prog.info? 42).map (fun i => (i.zero, i.size, i.bytes)) = some (some (.agg zeroC), 6, 80) := by kernel_rfl

/-- A list of entries, wherever it lies. -/
def Els (w : World) (v : Value) (us : List EE) : Prop :=
  (v = .slice none 0 0 ∧ us = []) ∨
  ∃ ad cap, v = .slice (some ad) us.length cap ∧ us.length ≤ cap ∧ ∀ j u, (us.flatMap EE.cells)[j]? = some u → w.cell? (ad.add j) = some u

/-- What each entry's slices lead to. -/
def HasAll (w : World) (us : List EE) : Prop := ∀ u ∈ us, Has w u.e u.a u.ca u.b u.cb

theorem Els.below {w w' : World} {v : Value} {us : List EE} (h : Els w v us) {B : Nat} (hB : w.heap.size ≤ B) (hb : Below B w w') : Els w' v us := by
  rcases h with h | ⟨ad, cap, hv, hl, hc⟩
  · exact .inl h
  · exact .inr ⟨ad, cap, hv, hl, fun j u hj => by
      have h1 := hc j u hj
      rw [hb.cell (p := ad.add j) (Nat.lt_of_lt_of_le (World.block_lt_of_cell? w _ h1) hB)]
      exact h1⟩

theorem HasAll.below {w w' : World} {us : List EE} (h : HasAll w us) {B : Nat} (hB : w.heap.size ≤ B) (hb : Below B w w') : HasAll w' us := fun u hu => (h u hu).below hB hb

theorem Els.form {w : World} {v : Value} {us : List EE} (h : Els w v us) : ∃ a c, v = .slice a us.length c := by
  rcases h with ⟨rfl, rfl⟩ | ⟨ad, cap, rfl, _⟩
  · exact ⟨_, _, rfl⟩
  · exact ⟨_, _, rfl⟩

theorem cells_all (us : List EE) : (us.flatMap EE.cells).length = us.length * 6 := by
  induction us with
  | nil => rfl
  | cons u us ih => rw [List.flatMap_cons, List.length_append, EE.cells_len, ih, List.length_cons]; omega

theorem cells_one (us : List EE) : ∀ u ∈ us.flatMap EE.cells, u.oneCell' = true := by
  intro x hx
  obtain ⟨u, _, hu⟩ := List.mem_flatMap.1 hx
  unfold EE.cells entC at hu
  simp only [List.mem_cons, List.not_mem_nil, or_false] at hu
  rcases hu with rfl | rfl | rfl | rfl | rfl | rfl <;> rfl

theorem cells_take (us : List EE) (i : Nat) : (us.flatMap EE.cells).take (i * 6) = (us.take i).flatMap EE.cells := by
  induction us generalizing i with
  | nil => simp
  | cons u us ih =>
    cases i with
    | zero => simp
    | succ i =>
      rw [List.flatMap_cons, List.take_succ_cons, List.flatMap_cons, ← ih i, show (i + 1) * 6 = u.cells.length + i * 6 by rw [EE.cells_len]; omega, List.take_length_add_append]

theorem cells_drop (us : List EE) (i : Nat) : (us.flatMap EE.cells).drop (i * 6) = (us.drop i).flatMap EE.cells := by
  induction us generalizing i with
  | nil => simp
  | cons u us ih =>
    cases i with
    | zero => simp
    | succ i =>
      rw [List.flatMap_cons, List.drop_succ_cons, ← ih i, show (i + 1) * 6 = u.cells.length + i * 6 by rw [EE.cells_len]; omega, List.drop_length_add_append]

theorem Els.load {w : World} {a : Option Addr} {n c : Nat} {us : List EE} (h : Els w (.slice a n c) us) {i : Nat} {u : EE} (hi : us[i]? = some u) : ∃ ad : Addr, a = some ad ∧ ∀ j v, u.cells[j]? = some v → w.cell? ((ad.add (i * 6)).add j) = some v := by
  rcases h with ⟨_, rfl⟩ | ⟨ad, cap, h1, _, hc⟩
  · simp at hi
  · cases h1
    refine ⟨ad, rfl, fun j v hj => ?_⟩
    have hd := cells_drop us i
    obtain ⟨hlt, hu⟩ := List.getElem?_eq_some_iff.1 hi
    rw [List.drop_eq_getElem_cons hlt, List.flatMap_cons, hu] at hd
    have hj6 : j < u.cells.length := (List.getElem?_eq_some_iff.1 hj).1
    have h2 : (us.flatMap EE.cells)[i * 6 + j]? = some v := by
      rw [← List.getElem?_drop, hd, List.getElem?_append_left hj6]
      exact hj
    have h3 := hc _ _ h2
    rw [← h3]
    congr 1
    by_cases h4 : i * 6 = 0
    · by_cases h5 : j = 0
      · simp [Addr.add, h4, h5]
      · simp [Addr.add, h4, h5]
    · by_cases h5 : j = 0
      · simp [Addr.add, h4, h5]
      · simp [Addr.add, h4, h5, Nat.add_assoc]

theorem load_ent (W : World) (p : Addr) (u : EE) (h : ∀ j v, u.cells[j]? = some v → W.cell? (p.add j) = some v) : (Instr.loadAt 42 (.pointer (some p))).run Try.prog W = .ok (.agg (entC u.e u.a u.ca u.b u.cb)) W :=
  loads_cells p 42 _ u.cells Try.underlying42 rfl (by kernel_rfl) h

end Go.Proofs.Ytidapdooiibfnaa

