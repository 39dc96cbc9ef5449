/- A state of the program: its cells; the words behind its whole blocks; its length. -/
import Derived.Test.YtdhfabjkpffhnabDoorShaStir
import Derived.Test.YtdhfabjkpffhnabDoorArms
namespace Go.Proofs.YtdhfabjkpffhnabDoor
set_option maxRecDepth 20000
open Go.RowKit ShaMath

/-- The cells of a state. -/
def stL (h : List (BitVec 32)) (r : List UInt8) (n : Nat) : List Value := h.map ru ++ (r.map bv ++ [.int .u64 (n : Int)])
def stC (h : List (BitVec 32)) (r : List UInt8) (n : Nat) : Array Value := (stL h r n).toArray

variable {h : List (BitVec 32)} {r : List UInt8} (n : Nat)
theorem stL_length (eh : h.length = 8) (er : r.length = 64) : (stL h r n).length = 73 := by simp [stL, eh, er]
theorem stC_size (eh : h.length = 8) (er : r.length = 64) : (stC h r n).size = 73 := by simp [stC, stL, eh, er]
theorem stC_words : ∀ j u, (h.map ru)[j]? = some u → (stC h r n)[0 + j]? = some u := by
  intro j u hj
  have hlt : j < (h.map ru).length := (List.getElem?_eq_some_iff.1 hj).1
  simp only [stC, stL, List.getElem?_toArray, Nat.zero_add]
  rw [List.getElem?_append_left hlt]
  exact hj
theorem stC_rest (eh : h.length = 8) : ∀ j u, (r.map bv)[j]? = some u → (stC h r n)[8 + j]? = some u := by
  intro j u hj
  have hlt : j < (r.map bv).length := (List.getElem?_eq_some_iff.1 hj).1
  simp only [stC, stL, List.getElem?_toArray]
  rw [List.getElem?_append_right (by simp [eh]), List.getElem?_append_left (by simp [eh] at hlt ⊢; omega)]
  simpa [eh] using hj
theorem stC_len (eh : h.length = 8) (er : r.length = 64) : (stC h r n)[72]? = some (.int .u64 (n : Int)) := by
  simp only [stC, stL, List.getElem?_toArray]
  rw [List.getElem?_append_right (by simp [eh]), List.getElem?_append_right (by simp [eh, er])]
  simp [eh, er]
theorem stC_setLen (eh : h.length = 8) (er : r.length = 64) (m : Nat) : (stC h r n).setIfInBounds 72 (.int .u64 (m : Int)) = stC h r m := by
  apply Array.toList_inj.1
  simp only [stC, stL, Array.toList_setIfInBounds]
  rw [List.set_append_right _ _ (by simp [eh]), List.set_append_right _ _ (by simp [eh, er])]
  simp [eh, er]
theorem stC_setWords (eh : h.length = 8) (h' : List (BitVec 32)) (eh' : h'.length = 8) : patch (stC h r n) 0 (h'.map ru) = stC h' r n := by
  unfold patch stC stL
  congr 1
  simp [eh, eh']
theorem stC_setRest (eh : h.length = 8) (er : r.length = 64) (o : Nat) (vs : List UInt8) (ho : o + vs.length ≤ 64) : patch (stC h r n) (8 + o) (vs.map bv) = stC h (r.take o ++ vs ++ r.drop (o + vs.length)) n := by
  unfold patch stC stL
  congr 1
  simp only [List.take_append, List.drop_append, List.length_map, eh, List.map_append, List.map_take, List.map_drop]
  rw [List.take_of_length_le (by simp [eh]), List.drop_of_length_le (l := h.map ru) (by simp [eh]; omega)]
  simp [er, show o - 64 = 0 by omega, show 8 + o - 8 = o by omega, show 8 + o + vs.length - 8 = o + vs.length by omega, show o + vs.length - 64 = 0 by omega]
theorem stL_one (h : List (BitVec 32)) (r : List UInt8) (n : Nat) : ∀ v ∈ stL h r n, v.oneCell' = true := by
  intro v hv
  simp only [stL, List.mem_append, List.mem_map, List.mem_singleton] at hv
  rcases hv with ⟨x, _, rfl⟩ | ⟨x, _, rfl⟩ | rfl <;> simp [ru, bv, Value.oneCell']
theorem stC_one (h : List (BitVec 32)) (r : List UInt8) (n : Nat) : (stC h r n).all (·.oneCell') = true := by
  rw [Array.all_eq_true_iff_forall_mem]
  intro v hv
  exact stL_one h r n v (by simpa [stC] using hv)

/-- The program's first words. -/
def Starts (w : World) : Prop := ∀ j, j < 8 → w.cell? ⟨1, j, none⟩ = some (ru (at0 ShaMath.start.list j))
theorem Starts.below {w w' : World} {B : Nat} (h : Starts w) (hB : w.heap.size ≤ B) (hb : Below B w w') : Starts w' := fun j hj => by
  have h0 := h j hj
  rw [hb.cell (p := ⟨1, j, none⟩) (Nat.lt_of_lt_of_le (World.block_lt_of_cell? w _ h0) hB)]
  exact h0

set_option maxRecDepth 100000 in
theorem chain_any (h : List (BitVec 32)) (r : List UInt8) (n : Nat) (w : World) (eh : h.length = 8) (er : r.length = 64) (hs : Starts w) (hn : n ≤ 18446744073709551615) :
    Calls Tryd.prog 59 #[.agg (stC h r n)] w fun e w' => e = .returned (.agg (us (if n < 64 then ShaMath.start.list else h))) ∧ Below w.heap.size w w' := by
  have hl := stC_len n eh er
  have hw := stC_words (r := r) n (h := h)
  obtain ⟨cs, hcs⟩ : ∃ cs, cs = stC h r n := ⟨_, rfl⟩
  rw [← hcs] at hl hw ⊢
  have HW := Lib.hid hw
  have HE := Lib.hid eh
  have HS := Lib.hid hs
  clear hcs eh er hw hs
  by_cases hlt : n < 64
  · rw [if_pos hlt]
    go_enter Tryd.func59, Tryd.ntmps59
    go_upto_region 2 with fail
    refine world_cut (fun W => (∃ zs, Blk W (w.heap.size + 1) 63 zs ∧ zs.size = 8) ∧ Starts W ∧ Below w.heap.size w W) ?_ ?_
    · exact ⟨⟨_, Blk.newAt _ _ _ _ _ (by simp) rfl, rfl⟩, HS.out.below (Nat.le_refl _) (((Below.refl _ _).alloc (Nat.le_refl _) _).alloc (by simp) _), (((Below.refl _ _).alloc (Nat.le_refl _) _).alloc (by simp) _)⟩
    rintro W ⟨⟨zs, hz, hzs⟩, hst, hb⟩
    have hld : (Instr.loadAt 63 (.pointer (some ⟨1, 0, none⟩))).run Tryd.prog W = .ok (.agg (us ShaMath.start.list)) W :=
      loads_cells ⟨1, 0, none⟩ _ _ (ShaMath.start.list.map ru) Tryd.underlying63 rfl (by kernel_rfl) (fun j u hj => by
        have hlt : j < 8 := by have := (List.getElem?_eq_some_iff.1 hj).1; simpa [ShaMath.start, Regs.list] using this
        rw [addr_add, Nat.zero_add, hst j hlt, ← us_at _ _ (by simpa [ShaMath.start, Regs.list] using hlt)]
        simpa [us] using hj)
    have HLd := Lib.hid hld
    have HZ := Lib.hid hz
    have HZs := Lib.hid hzs
    have HB := Lib.hid hb
    clear hld hz hzs hst hb
    go_wp2_with (first
      | (refine wpList_load_by rfl 63 (.global 1) rfl _ _ rfl HLd.out ?_)
      | (refine wpList_store_row rfl 63 (.tmp 2) (.tmp 6) rfl (w.heap.size + 1) (us ShaMath.start.list) rfl rfl _ _ HZ.out (by kernel_rfl) (by rw [HZs.out]; kernel_rfl) (us_one _) ?_))
    refine bodyPost_ret (v := .agg (us ShaMath.start.list)) (results_cell_row rfl _ _ (w.heap.size + 1) _ (us ShaMath.start.list) _ _ rfl (HZ.out.row _) Tryd.underlying63 rfl (by kernel_rfl)) rfl ⟨rfl, below_setRow HB.out _ _ (by omega)⟩
  · rw [if_neg hlt]
    go_enter Tryd.func59, Tryd.ntmps59
    go_upto_region 3 with fail
    refine world_cut (fun W => (∃ zs, Blk W (w.heap.size + 1) 63 zs ∧ zs.size = 8) ∧ Blk W w.heap.size 66 cs ∧ Below w.heap.size w W) ?_ ?_
    · exact ⟨⟨_, Blk.newAt _ _ _ _ _ (by simp) rfl, rfl⟩, (Blk.new _ _ _).alloc _, (((Below.refl _ _).alloc (Nat.le_refl _) _).alloc (by simp) _)⟩
    rintro W ⟨⟨zs, hz, hzs⟩, hst, hb⟩
    have hsz : (Tryd.prog.info? 63).map (·.size) = some (h.map ru).length := by rw [List.length_map, HE.out]; kernel_rfl
    have hld := hst.loadsAt (P := Tryd.prog) 63 _ 0 0 (h.map ru) Tryd.underlying63 rfl hsz (fun j u hj => HW.out j u hj) rfl
    have HLd := Lib.hid hld
    have HZ := Lib.hid hz
    have HZs := Lib.hid hzs
    have HB := Lib.hid hb
    have hsz2 : (Tryd.prog.info? 63).map (·.size) = some (us h).size := by rw [us_size, HE.out]; kernel_rfl
    have HSz2 := Lib.hid hsz2
    have HSz3 := Lib.hid (show zs.size = (us h).size by rw [hzs, us_size, HE.out])
    clear hsz hsz2 hld hz hzs hst hb
    go_wp2_with (first
      | (refine wpList_load_by rfl 63 (.tmp 7) rfl _ _ rfl HLd.out ?_)
      | (refine wpList_store_row rfl 63 (.tmp 2) (.tmp 8) rfl (w.heap.size + 1) (us h) rfl rfl _ _ HZ.out HSz2.out HSz3.out (us_one _) ?_))
    refine bodyPost_ret (v := .agg (us h)) (results_cell_row rfl _ _ (w.heap.size + 1) _ (us h) _ _ rfl (HZ.out.row _) Tryd.underlying63 rfl HSz2.out) rfl ⟨rfl, below_setRow HB.out _ _ (by omega)⟩
end Go.Proofs.YtdhfabjkpffhnabDoor
