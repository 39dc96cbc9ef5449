/- Slices of gauges, of rows, of whole numbers. -/
import Derived.Test.YtoabhnbifbdknaaGaugeSort
import Derived.Test.YtoabhnbifbdknaaArms
import Derived.Test.YtoabhnbifbdknaaSkip
namespace Go.Proofs.Ytoabhnbifbdknaa
open Go.RowKit EdgeMath Reg

/-- A slice of gauges that begins where its block does. -/
def Gls (w : World) (v : Value) (ms : List G) : Prop :=
  ∃ a cap, v = .slice a ms.length cap ∧ ms.length ≤ cap ∧ ∀ i (h : i < ms.length), ∃ g, a = some ⟨g, 0, none⟩ ∧ ∀ c u, (ms[i].cells)[c]? = some u → w.cell? ⟨g, i * 5 + c, none⟩ = some u

theorem Gls.keep {w w' : World} {v : Value} {ms : List G} (h : Gls w v ms) (hb : Below w.heap.size w w') : Gls w' v ms := by
  obtain ⟨a, cap, e, hl, h⟩ := h
  refine ⟨a, cap, e, hl, fun i hi => ?_⟩
  obtain ⟨g, eg, hc⟩ := h i hi
  exact ⟨g, eg, fun c u hu => by rw [hb.cell (World.block_lt_of_cell? w _ (hc c u hu))]; exact hc c u hu⟩

theorem gls_load {w : World} {g i : Nat} {a : G} (h : ∀ c u, (a.cells)[c]? = some u → w.cell? ⟨g, i * 5 + c, none⟩ = some u) : (Instr.loadAt 27 (.pointer (some ⟨g, i * 5, none⟩))).run Try.prog w = .ok (.agg a.cells) w := by
  have := loads_cells (P := Try.prog) (W := w) ⟨g, i * 5, none⟩ 27 _ a.cells.toList Try.underlying27 rfl (by simpa using gcells_info a) (fun j u hu => by
    have hadd : (⟨g, i * 5, none⟩ : Addr).add j = ⟨g, i * 5 + j, none⟩ := by unfold Addr.add; split <;> simp_all
    rw [hadd]
    exact h j u (by simpa using hu))
  simpa using this

theorem gls_index (W : World) (g n cap i : Nat) (hi : i < n) : (Instr.indexAt 38 (.slice (some ⟨g, 0, none⟩) n cap) (.int .i64 (i : Int))).run Try.prog W = .ok (.pointer (some ⟨g, i * 5, none⟩)) W := by
  have he : Try.prog.elem 38 = 27 := by kernel_rfl
  have hs : (Go.sizeOf 27).run Try.prog W = .ok 5 W := by kernel_rfl
  have ht : Try.prog.underlying 38 = some (.slice (Try.prog.elem 38)) := by rw [he]; exact Try.underlying38
  rw [run_indexAt_slice (h := ht), if_pos (by omega), he, hs]
  simp [Result.andThen, Addr.add]
  exact fun h => h.symm

theorem row_index (W : World) (g n cap i : Nat) (hi : i < n) : (Instr.indexAt 61 (.slice (some ⟨g, 0, none⟩) n cap) (.int .i64 (i : Int))).run Try.prog W = .ok (.pointer (some ⟨g, i * 3, none⟩)) W := by
  have he : Try.prog.elem 61 = 63 := by kernel_rfl
  have hs : (Go.sizeOf 63).run Try.prog W = .ok 3 W := by kernel_rfl
  have ht : Try.prog.underlying 61 = some (.slice (Try.prog.elem 61)) := by rw [he]; exact Try.underlying61
  rw [run_indexAt_slice (h := ht), if_pos (by omega), he, hs]
  simp [Result.andThen, Addr.add]
  exact fun h => h.symm

theorem int_index (W : World) (g n cap i : Nat) (hi : i < n) : (Instr.indexAt 42 (.slice (some ⟨g, 0, none⟩) n cap) (.int .i64 (i : Int))).run Try.prog W = .ok (.pointer (some ⟨g, i, none⟩)) W := by
  have he : Try.prog.elem 42 = 3 := by kernel_rfl
  have hs : (Go.sizeOf 3).run Try.prog W = .ok 1 W := by kernel_rfl
  have ht : Try.prog.underlying 42 = some (.slice (Try.prog.elem 42)) := by rw [he]; exact Try.underlying42
  rw [run_indexAt_slice (h := ht), if_pos (by omega), he, hs]
  simp [Result.andThen, Addr.add]
  exact fun h => h.symm

abbrev Tr := Nat × Nat × Nat

theorem encR_length (x : Tr) : (encR x).length = 3 := rfl
theorem encR_one (x : Tr) : ∀ v ∈ encR x, v.oneCell' = true := fun v hv => by
  simp [encR] at hv
  rcases hv with rfl | rfl | rfl <;> rfl

theorem flat_at (d : Array Tr) (t : Nat) (h : t < d.size * 3) : (Go.Sort.flatK encR 3 d)[t]? = some ((encR d[t / 3]!)[t % 3]!) := by
  rw [Array.getElem?_eq_getElem (by simpa using h)]
  have := Go.Sort.get_flatK encR 3 d t h
  rw [getElem!_pos _ t (by simpa using h)] at this
  rw [this]

theorem flat_patch (d : Array Tr) (i : Nat) (hi : i < d.size) (x : Tr) : patch (Go.Sort.flatK encR 3 d) (i * 3) (encR x) = Go.Sort.flatK encR 3 (d.setIfInBounds i x) := by
  have hsz : (Go.Sort.flatK encR 3 d).toList.length = d.size * 3 := by simp
  apply Array.ext_getElem?
  intro t
  unfold patch
  rw [List.getElem?_toArray]
  by_cases ht : t < d.size * 3
  · rw [flat_at _ t (by simpa using ht)]
    by_cases h1 : t < i * 3
    · rw [List.append_assoc, List.getElem?_append_left (by rw [List.length_take]; omega), List.getElem?_take, if_pos h1, Array.getElem?_toList, flat_at d t ht, Go.Sort.getElem!_set_other d i (t / 3) x (by omega)]
    · by_cases h2 : t < i * 3 + 3
      · have e1 : t / 3 = i := by omega
        have e2 : t % 3 = t - i * 3 := by omega
        rw [e1, Go.Sort.getElem!_set_same d i x hi, e2, List.append_assoc, List.getElem?_append_right (by rw [List.length_take]; omega), List.length_take, hsz, Nat.min_eq_left (by omega), List.getElem?_append_left (by rw [encR_length]; omega)]
        rw [List.getElem?_eq_getElem (by rw [encR_length]; omega)]
        rw [getElem!_pos _ _ (by rw [encR_length]; omega)]
      · rw [List.getElem?_append_right (by rw [List.length_append, List.length_take, encR_length]; omega), List.length_append, List.length_take, hsz, encR_length, Nat.min_eq_left (by omega), List.getElem?_drop, Array.getElem?_toList, show i * 3 + 3 + (t - (i * 3 + 3)) = t by omega, flat_at d t ht, Go.Sort.getElem!_set_other d i (t / 3) x (by omega)]
  · rw [Array.getElem?_eq_none (by simp; omega), List.getElem?_eq_none]
    rw [List.length_append, List.length_append, List.length_take, List.length_drop, hsz, encR_length]
    omega

/-- The block of the rows. -/
def RBlk (W : World) (g : Nat) (d : Array Tr) : Prop := Blk W g 63 (Go.Sort.flatK encR 3 d)

theorem RBlk.holds {W : World} {g : Nat} {d : Array Tr} (h : RBlk W g d) : Go.Sort.HoldsK encR 3 W g 0 d := by
  intro j hj
  have hj' : j < d.size * 3 := by simpa using hj
  refine ⟨?_, Blk.frozen h _⟩
  rw [Blk.cell h, Nat.zero_add, flat_at d j hj']
  rw [Go.Sort.get_flatK encR 3 d j hj']
  rfl

theorem row_info : (Try.prog.info? 63).map (fun i => (i.zero, i.size, i.bytes)) = some (some (.agg #[.int .i64 0, .float .f64 0, .float .f64 0]), 3, 24) := by kernel_rfl
theorem row_size (x : Tr) : (Try.prog.info? 63).map (·.size) = some (encR x).length := by
  have h : (Try.prog.info? 63).map (·.size) = some 3 := by kernel_rfl
  exact h
theorem int_info : (Try.prog.info? 3).map (fun i => (i.zero, i.size, i.bytes)) = some (some (.int .i64 0), 1, 8) := by kernel_rfl

theorem made_flat (n : Nat) : madeCells #[.int .i64 0, .float .f64 0, .float .f64 0] (n * 3) = Go.Sort.flatK encR 3 (Array.replicate n (0, 0, 0)) := by
  apply Array.ext_getElem?
  intro t
  by_cases ht : t < n * 3
  · rw [flat_at _ t (by simpa using ht)]
    rw [Array.getElem?_eq_getElem (by rw [size_madeCells]; exact ht)]
    unfold madeCells
    simp only [Array.getElem_map, Array.getElem_range]
    congr 1
    rw [getElem!_pos (Array.replicate n ((0, 0, 0) : Tr)) (t / 3) (by simp; omega), Array.getElem_replicate]
    have h3 : t % 3 = 0 ∨ t % 3 = 1 ∨ t % 3 = 2 := by omega
    show (#[Value.int .i64 0, .float .f64 0, .float .f64 0] : Array Value)[t % 3]! = _
    rcases h3 with h3 | h3 | h3 <;> rw [h3] <;> rfl
  · rw [Array.getElem?_eq_none (by rw [size_madeCells]; omega), Array.getElem?_eq_none (by simp; omega)]

theorem rblk_made {W : World} {B g n : Nat} (h : W.ownsRow B 63 3 (.slice (some ⟨g, 0, none⟩) n n) n (madeCells #[.int .i64 0, .float .f64 0, .float .f64 0] (n * 3)).toList) : RBlk W g (Array.replicate n (0, 0, 0)) := by
  rcases h.2 with ⟨e, _⟩ | ⟨k, cap, cur, e, hB, hk, hn, hm, hs, ht⟩
  · cases e
  · injection e with e1 e2 e3
    injection e1 with e1
    injection e1 with e1 _ _
    subst e1 e3
    unfold RBlk Blk
    rw [← made_flat]
    rw [List.take_of_length_le (by rw [Array.length_toList, hs]; exact Nat.le_refl _)] at ht
    rw [← Array.toList_inj.1 ht]
    exact hk

/-- The block of whole numbers. -/
def nv (x : Nat) : Value := .int .i64 (x : Int)
def NBlk (W : World) (g : Nat) (l : List Nat) : Prop := Blk W g 3 (l.map nv).toArray

theorem nblk_made {W : World} {B g n : Nat} (h : W.ownsRow B 3 1 (.slice (some ⟨g, 0, none⟩) n n) n (madeCells #[.int .i64 0] (n * 1)).toList) : NBlk W g (List.replicate n 0) := by
  rcases h.2 with ⟨e, _⟩ | ⟨k, cap, cur, e, hB, hk, hn, hm, hs, ht⟩
  · cases e
  · injection e with e1 e2 e3
    injection e1 with e1
    injection e1 with e1 _ _
    subst e1 e3
    unfold NBlk Blk
    have hq : (madeCells #[.int .i64 0] (n * 1)) = ((List.replicate n 0).map nv).toArray := by
      apply Array.ext_getElem?
      intro t
      by_cases ht : t < n
      · rw [Array.getElem?_eq_getElem (by rw [size_madeCells]; omega)]
        unfold madeCells
        simp [ht, nv, Nat.mod_one]
      · rw [Array.getElem?_eq_none (by rw [size_madeCells]; omega), Array.getElem?_eq_none (by simp; omega)]
    rw [List.take_of_length_le (by rw [Array.length_toList, hs]; omega)] at ht
    rw [← hq, ← Array.toList_inj.1 ht]
    exact hk

theorem nblk_set {l : List Nat} (i x : Nat) : ((l.map nv).toArray).setIfInBounds i (nv x) = ((l.set i x).map nv).toArray := by
  apply Array.toList_inj.1
  simp [List.map_set]

end Go.Proofs.Ytoabhnbifbdknaa
