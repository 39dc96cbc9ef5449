/- A term and a vote as bytes, there and back. -/
import Derived.Test.YtboongdoggggoaaSwapOpen
import Derived.Test.YtboongdoggggoaaCellMath
import Derived.Test.YtboongdoggggoaaBinNew
import Derived.Test.YtboongdoggggoaaTexts
namespace Go.Proofs.Ytboongdoggggoaa
set_option maxRecDepth 20000
open Go.RowKit Go.Maps DiskMath SwapMath CellMath BinMath Reg

theorem load_u64 (W : World) (p : Addr) (v : Value) (h : W.cell? p = some v) : (Instr.loadAt 33 (.pointer (some p))).run Try.prog W = .ok v W := by
  have hagg : (isAgg 33).run Try.prog W = .ok false W := by kernel_rfl
  simp [Instr.loadAt, Instr.sureAddr, loadVar, Sem.run_bind, hagg, h]

/-- A term and a vote as a value. -/
abbrev hv (h : Hd) : Value := .agg #[.int .u64 (h.1 : Int), .int .u64 (h.2 : Int)]

set_option maxHeartbeats 1000000 in
theorem textOf_any (h : Hd) (ho : okH h) (w : World) : Calls Try.prog 84 #[hv h] w fun e w' => ∃ v, e = .returned v ∧ Row w' w.heap.size v (txt h) ∧ Below w.heap.size w w' := by
  obtain ⟨a, b⟩ := h
  have HO := Lib.hid ho
  clear ho
  go_enter Try.func84, Try.ntmps84
  go_upto_region 1 with fail
  obtain ⟨W0, hW0⟩ : ∃ W0, W0 = w.alloc (.cells #[.int .u64 (a : Int), .int .u64 (b : Int)] 63) := ⟨_, rfl⟩
  obtain ⟨b0, hb0⟩ : ∃ b0, b0 = w.heap.size := ⟨_, rfl⟩
  have hbox : Blk W0 b0 63 #[.int .u64 (a : Int), .int .u64 (b : Int)] := by rw [hW0, hb0]; exact Blk.new w _ _
  have hb00 : Below w.heap.size w W0 := by rw [hW0]; exact (Below.refl _ w).alloc (Nat.le_refl _) _
  have HBox := Lib.hid hbox
  have HB0 := Lib.hid hb00
  have hl1 : (numL a).length ≤ 9 := by rw [numL_length]; have := nb_le a HO.out.1; omega
  have hl2 : (numL b).length ≤ 9 := by rw [numL_length]; have := nb_le b HO.out.2; omega
  have HL1 := Lib.hid hl1
  have HL2 := Lib.hid hl2
  have hG : ∀ W W' : World, Below W0.heap.size W0 W → Below W.heap.size W W' → Below W0.heap.size W0 W' := fun W W' h h' => h.trans (h'.mono h.size)
  rw [← hW0, ← hb0]
  clear hW0 hb0 hbox hb00 hl1 hl2
  refine region_tails_by 6 [(3, .is (.pointer (some ⟨b0, 0, none⟩))), (4, .is (.int .u64 (a : Int))), (5, .row W0.heap.size (numL a)), (6, .is (.pointer (some ⟨b0, 1, none⟩))), (7, .is (.int .u64 (b : Int))), (8, .bys (numL b))] [5, 8] (fun W => Below W0.heap.size W0 W) (by kernel_rfl) (by kernel_rfl) (by kernel_rfl) (by kernel_rfl) (by kernel_rfl) (by decide) (by kernel_rfl) (by kernel_rfl) ((Below.refl _ _).drew) ?_ ?_
  · refine ⟨?a0, ?a1, ?a2, ?a3, ?a4, ?a5, trivial⟩
    case a0 => exact ask_field (guard_none rfl) _ (.tmp 1) 0 (.pointer (some ⟨b0, 0, none⟩)) (.pointer (some ⟨b0, 0, none⟩)) rfl rfl (by intro k hk; cases hk; rfl) (fun W => by kernel_rfl)
    case a1 => exact ask_load (guard_none rfl) _ (.tmp 3) (.pointer (some ⟨b0, 0, none⟩)) (.int .u64 (a : Int)) rfl rfl (by intro k hk; cases hk; rfl) (fun W hW => load_u64 W _ _ (by rw [hW.cell (p := ⟨b0, 0, none⟩) HBox.out.lt, HBox.out.cell]; rfl))
    case a2 => exact ask_call hG (guard_none rfl) _ _ _ #[.int .u64 (a : Int)] (.row W0.heap.size (numL a)) rfl (by kernel_rfl) rfl rfl (by intro k hk; cases hk; rfl) (fun W hW => (num_any a W HO.out.1).mono fun e w' h => by
      obtain ⟨v, h1, h2, h3⟩ := h
      exact ⟨v, h1, row_lower h2 hW.size, h3⟩)
    case a3 => exact ask_field (guard_none rfl) _ (.tmp 1) 1 (.pointer (some ⟨b0, 0, none⟩)) (.pointer (some ⟨b0, 1, none⟩)) rfl rfl (by intro k hk; cases hk; rfl) (fun W => by kernel_rfl)
    case a4 => exact ask_load (guard_none rfl) _ (.tmp 6) (.pointer (some ⟨b0, 1, none⟩)) (.int .u64 (b : Int)) rfl rfl (by intro k hk; cases hk; rfl) (fun W hW => load_u64 W _ _ (by rw [hW.cell (p := ⟨b0, 1, none⟩) HBox.out.lt, HBox.out.cell]; rfl))
    case a5 => exact ask_call hG (guard_none rfl) _ _ _ #[.int .u64 (b : Int)] (.bys (numL b)) rfl (by kernel_rfl) rfl rfl (by intro k hk; cases hk; rfl) (fun W hW => (num_any b W HO.out.2).mono fun e w' h => by
      obtain ⟨v, h1, h2, h3⟩ := h
      exact ⟨v, h1, h2.bys, h3⟩)
  intro a2 W2 hW2 hd2 hs2 hf2
  have t5 : Row W2 W0.heap.size (a2.tmps.getD 5 undef) (numL a) := hf2 5 rfl
  have t8 : Bys W2 (a2.tmps.getD 8 undef) (numL b) := hf2 8 rfl
  obtain ⟨us, hus, ha'⟩ := act_open 10 a2 hs2 hd2
  rw [← hus] at t5 t8
  have el : ((List.range 10).map us).toArray = #[us 0, us 1, us 2, us 3, us 4, us 5, us 6, us 7, us 8, us 9] := rfl
  rw [el] at ha'
  subst ha'
  have A1 := Lib.hid (grow_row hW2.size t5 t8 (by have := HL1.out; have := HL2.out; omega) hW2)
  clear hus t5 t8 el hf2 hs2 hd2 hG
  simp only [List.drop_succ_cons, List.drop_zero]
  go_wp2_with (at_builtin; refine wpList_append_by rfl _ _ 22 rfl _ _ rfl rfl _ A1.out ?_; rintro v3 w3 ⟨hr3, hb3⟩; (have HR := Lib.hid hr3); (have HB := Lib.hid hb3); clear hr3 hb3)
  go_wp2
  go_ret
  exact ⟨_, rfl, row_lower HR.out HB0.out.size, HB0.out.trans (HB.out.mono HB0.out.size)⟩

/-- A struct in its cell as the result. -/
theorem ret_hard {fn : Func} {p : Tmp} (h : fn.results = #[.cell p 63]) (tmps : Array Value) (W : World) (g x y : Nat) (hp : tmps.getD p undef = .pointer (some ⟨g, 0, none⟩)) (hb : Blk W g 63 #[.int .u64 (x : Int), .int .u64 (y : Int)]) :
    (results fn tmps).run Try.prog W = .ok (hv (x, y)) W :=
  results_cell_row h _ _ g 63 #[.int .u64 (x : Int), .int .u64 (y : Int)] (0, 0) _ hp hb Try.underlying63 rfl (by kernel_rfl)

theorem set_hard {W : World} {g : Nat} (h : Blk W g 63 #[.int .u64 0, .int .u64 0]) (x y : Nat) : Blk ((W.setCell ⟨g, 0, none⟩ (.int .u64 (x : Int))).setCell ⟨g, 1, none⟩ (.int .u64 (y : Int))) g 63 #[.int .u64 (x : Int), .int .u64 (y : Int)] := Blk.set (Blk.set h 0 _) 1 _

set_option maxHeartbeats 1000000 in
theorem hardIn_any (a : Option Addr) (len cap : Nat) (t : List UInt8) (w : World) (hx : Bys w (.slice a len cap) t) (hl : t.length ≤ 140737488351232) :
    Calls Try.prog 80 #[.slice a len cap] w fun e w' => e = .returned (hv (hardOf t)) ∧ Below w.heap.size w w' := by
  have HX := Lib.hid hx
  have HL := Lib.hid hl
  obtain ⟨X, hX⟩ : ∃ X, X = hardOf t := ⟨_, rfl⟩
  rw [← hX]
  have HXX := Lib.hid hX
  clear hx hl hX
  go_enter Try.func80, Try.ntmps80
  go_wp2_with fail
  have hb0 : Below w.heap.size w (w.alloc (.cells #[.int .u64 0, .int .u64 0] 63)) := (Below.refl _ w).alloc (Nat.le_refl _) _
  refine (rnew_any a len cap t _ (HX.out.below (Nat.le_refl _) hb0) HL.out).mono ?_
  rintro e w1 ⟨R, rfl, hR, hrd, hb1⟩
  have g1 : Blk w1 w.heap.size 63 #[.int .u64 0, .int .u64 0] := (Blk.new w _ _).keep hb1
  have HB1 := Lib.hid (hb0.trans (hb1.mono hb0.size))
  have HG1 := Lib.hid g1
  have HRd := Lib.hid hrd
  have hRs : w.heap.size + 1 ≤ R := by simpa using hR
  have HRs := Lib.hid hRs
  clear hb0 hb1 g1 hrd hR hRs
  go_wp2_with fail
  refine (rdNum_any R t 0 0 w1 HRd.out).mono ?_
  rintro e w2 ⟨ho2, rfl, hrd2⟩
  have hg2 : Blk w2 w.heap.size 63 #[.int .u64 0, .int .u64 0] := by
    have h := HG1.out
    have hlt := h.lt
    unfold Blk at h ⊢
    rw [ho2.block _ hlt (by have := HRs.out; omega)]
    exact h
  have hbw2 : Below w.heap.size w w2 := HB1.out.trans (ho2.below (by have := HRs.out; omega) HB1.out.size)
  obtain ⟨n1, hn1⟩ : ∃ n1, n1 = (numS t 0 0).1 := ⟨_, rfl⟩
  obtain ⟨c1, hc1⟩ : ∃ c1, c1 = (numS t 0 0).2.1 := ⟨_, rfl⟩
  obtain ⟨k1, hk1⟩ : ∃ k1, k1 = (numS t 0 0).2.2 := ⟨_, rfl⟩
  rw [← hn1, ← hc1]
  rw [← hc1, ← hk1] at hrd2
  have HRd2 := Lib.hid hrd2
  have HG2 := Lib.hid hg2
  have HB2 := Lib.hid hbw2
  have hres : X = if (numS t k1 c1).2.1 = 0 then (n1, (numS t k1 c1).1) else (0, 0) := by rw [HXX.out]; unfold hardOf; rw [hn1, hc1, hk1]
  have HRes := Lib.hid hres
  clear ho2 hrd2 hg2 hbw2 hn1 hc1 hk1 hres HRd HG1 HB1
  go_wp2_with fail
  refine (rdNum_any R t k1 c1 w2 HRd2.out).mono ?_
  rintro e w3 ⟨ho3, rfl, -⟩
  have hg3 : Blk w3 w.heap.size 63 #[.int .u64 0, .int .u64 0] := by
    have h := HG2.out
    have hlt := h.lt
    unfold Blk at h ⊢
    rw [ho3.block _ hlt (by have := HRs.out; omega)]
    exact h
  have hbw3 : Below w.heap.size w w3 := HB2.out.trans (ho3.below (by have := HRs.out; omega) HB2.out.size)
  obtain ⟨n2, hn2⟩ : ∃ n2, n2 = (numS t k1 c1).1 := ⟨_, rfl⟩
  obtain ⟨c2, hc2⟩ : ∃ c2, c2 = (numS t k1 c1).2.1 := ⟨_, rfl⟩
  have hres := HRes.out
  rw [← hn2, ← hc2] at hres ⊢
  have HG3 := Lib.hid hg3
  have HB3 := Lib.hid hbw3
  have z0 : w3.cell? ⟨w.heap.size, 0, none⟩ = some (.int .u64 0) := by rw [hg3.cell]; rfl
  have z1 : w3.cell? ⟨w.heap.size, 1, none⟩ = some (.int .u64 0) := by rw [hg3.cell]; rfl
  have f0 : w3.frozen? ⟨w.heap.size, 0, none⟩ = false := hg3.frozen 0
  have f1 : w3.frozen? ⟨w.heap.size, 1, none⟩ = false := hg3.frozen 1
  clear ho3 hg3 hbw3 hn2 hc2 HRes HG2 HB2
  by_cases h0 : c2 = 0
  · subst h0
    rw [if_pos rfl] at hres
    have HR := Lib.hid hres
    clear hres
    go_wp2
    refine bodyPost_ret (v := hv (n1, n2)) (ret_hard rfl _ _ w.heap.size n1 n2 rfl (set_hard HG3.out n1 n2)) rfl ⟨by rw [HR.out], ?_⟩
    exact (HB3.out.setCell (Nat.le_refl _) _).setCell (Nat.le_refl _) _
  · rw [if_neg h0] at hres
    have hz : ((c2 : Int) != 0) = true := by simp; omega
    have HR := Lib.hid hres
    clear hres h0
    go_wp2
    refine bodyPost_ret (v := hv (0, 0)) (ret_hard rfl _ _ w.heap.size 0 0 rfl (set_hard HG3.out 0 0)) rfl ⟨by rw [HR.out], ?_⟩
    exact (HB3.out.setCell (Nat.le_refl _) _).setCell (Nat.le_refl _) _

end Go.Proofs.Ytboongdoggggoaa
