/- A raw gauge made a gauge. -/
import Derived.Test.YtboongdoggggoaaGaugeKit
import Derived.Deep.Cut
namespace Go.Proofs.Ytboongdoggggoaa
set_option maxRecDepth 20000
open Go.RowKit EdgeMath

/-- A raw gauge as cells. -/
def EdgeMath.G.raws (a : G) : Array Value := #[.int .u64 (a.n : Int), .int .u64 (a.m : Int), .int .u64 (a.s : Int), .int .u64 (a.lo : Int), .int .u64 (a.hi : Int)]

set_option maxRecDepth 100000 in
set_option maxHeartbeats 1000000 in
theorem graw_any (b : G) (w : World) : Calls Try.prog 27 #[.agg b.raws] w fun e w' => e = .returned (.agg b.cells) ∧ Below w.heap.size w w' := by
  obtain ⟨n, b0, b1, b2, b3⟩ := b
  have hf := run_from
  show Calls Try.prog 27 #[.agg #[.int .u64 (n : Int), .int .u64 (b0 : Int), .int .u64 (b1 : Int), .int .u64 (b2 : Int), .int .u64 (b3 : Int)]] w _
  go_enter Try.func27, Try.ntmps27
  go_upto_region 1 with fail
  refine region_tail 19 (by kernel_rfl) (by kernel_rfl) (fun W => Blk W w.heap.size 51 (G.raws ⟨n, b0, b1, b2, b3⟩) ∧ Blk W (w.heap.size + 1) 54 (G.cells ⟨0, 0, 0, 0, 0⟩) ∧ Below w.heap.size w W) ?_ ?_
  · exact ⟨Blk.alloc (Blk.new w _ _) _, Blk.newAt _ _ _ _ _ (by simp) rfl, (((Below.refl _ _).alloc (Nat.le_refl _) _).alloc (by simp) _).drew⟩
  rintro W ⟨h1, h2, h3⟩
  have hc0 : W.cell? ⟨w.heap.size, 0, none⟩ = some (.int .u64 (n : Int)) := by rw [Blk.cell h1]; rfl
  have hc1 : W.cell? ⟨w.heap.size, 1, none⟩ = some (.int .u64 (b0 : Int)) := by rw [Blk.cell h1]; rfl
  have hc2 : W.cell? ⟨w.heap.size, 2, none⟩ = some (.int .u64 (b1 : Int)) := by rw [Blk.cell h1]; rfl
  have hc3 : W.cell? ⟨w.heap.size, 3, none⟩ = some (.int .u64 (b2 : Int)) := by rw [Blk.cell h1]; rfl
  have hc4 : W.cell? ⟨w.heap.size, 4, none⟩ = some (.int .u64 (b3 : Int)) := by rw [Blk.cell h1]; rfl
  have H2 := Lib.hid h2
  have H3 := Lib.hid h3
  clear h1 h2 h3
  simp only [List.take_succ_cons, List.take_zero, List.drop_succ_cons, List.drop_zero]
  repeat (first | go_big_quiet_skip | (go_big_quiet_want; go_big_quiet_op; go_big_quiet_on))
  refine wpQuiet_nil ?_
  refine wpList_store_row rfl 54 (.tmp 2) (.tmp 21) rfl (w.heap.size + 1) (G.cells ⟨n, b0, b1, b2, b3⟩) rfl rfl 54 _ H2.out (gcells_info _) rfl (gcells_one _) ?_
  go_wp2
  exact bodyPost_ret (v := .agg (G.cells ⟨n, b0, b1, b2, b3⟩)) (results_cell_row rfl _ _ (w.heap.size + 1) _ _ _ _ rfl (Blk.row H2.out _) Try.underlying54 rfl (gcells_info _)) rfl ⟨rfl, below_setRow H3.out _ _ (by omega)⟩

end Go.Proofs.Ytboongdoggggoaa
