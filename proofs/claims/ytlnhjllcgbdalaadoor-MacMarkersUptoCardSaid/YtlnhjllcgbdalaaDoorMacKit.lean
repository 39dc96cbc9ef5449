/- A marker of the program: its cells; what they hold. -/
import Derived.Test.YtlnhjllcgbdalaaDoorMacMath
import Derived.Test.YtlnhjllcgbdalaaDoorShaTabs
namespace Go.Proofs.YtlnhjllcgbdalaaDoor
open Go.RowKit ShaMath MacMath

/-- The cells of a marker. -/
def mkL (k : List UInt8) (st : List Value) : List Value := k.map bv ++ st
def mkC (k : List UInt8) (st : Array Value) : Array Value := (mkL k st.toList).toArray

theorem mkC_size {k : List UInt8} {st : Array Value} (ek : k.length = 64) (es : st.size = 73) : (mkC k st).size = 137 := by simp [mkC, mkL, ek, es]
theorem mkC_key {k : List UInt8} {st : Array Value} : ∀ j u, (k.map bv)[j]? = some u → (mkC k st)[0 + j]? = some u := by
  intro j u hj
  have hlt : j < (k.map bv).length := (List.getElem?_eq_some_iff.1 hj).1
  simp only [mkC, mkL, List.getElem?_toArray, Nat.zero_add]
  rw [List.getElem?_append_left hlt]
  exact hj
theorem mkC_at {k : List UInt8} {st : Array Value} (i : Nat) (h : i < k.length) : (mkC k st)[i]? = some (bv (k.getD i 0)) := by
  have := mkC_key (k := k) (st := st) i (bv (k.getD i 0)) (by simp [h, List.getD])
  rwa [Nat.zero_add] at this
theorem mkC_inner {k : List UInt8} {st : Array Value} (ek : k.length = 64) : ∀ j u, st.toList[j]? = some u → (mkC k st)[64 + j]? = some u := by
  intro j u hj
  simp only [mkC, mkL, List.getElem?_toArray]
  rw [List.getElem?_append_right (by simp [ek])]
  simpa [ek] using hj
theorem mkC_set {k : List UInt8} {st : Array Value} (i : Nat) (c : UInt8) (h : i < k.length) : (mkC k st).setIfInBounds i (bv c) = mkC (k.set i c) st := by
  apply Array.toList_inj.1
  simp only [mkC, mkL, Array.toList_setIfInBounds]
  rw [List.set_append_left _ _ (by simpa using h)]
  simp [List.map_set]
theorem mkC_setInner {k : List UInt8} {st : Array Value} (ek : k.length = 64) (es : st.size = 73) (st' : Array Value) (es' : st'.size = 73) : patch (mkC k st) 64 st'.toList = mkC k st' := by
  unfold patch mkC mkL
  congr 1
  simp [ek, es, es']
theorem mkC_setKey {k : List UInt8} {st : Array Value} (ek : k.length = 64) (vs : List UInt8) (h : vs.length ≤ 64) : patch (mkC k st) 0 (vs.map bv) = mkC (put k 0 vs) st := by
  unfold patch mkC mkL put
  congr 1
  simp only [List.take_zero, List.nil_append, Nat.zero_add, List.map_append, List.append_assoc, List.map_drop]
  rw [List.length_map, List.drop_append_of_le_length (by rw [List.length_map, ek]; exact h)]
theorem mkC_one {k : List UInt8} {st : Array Value} (h : ∀ u ∈ st.toList, u.oneCell' = true) : (mkC k st).all (·.oneCell') = true := by
  rw [Array.all_eq_true_iff_forall_mem]
  intro v hv
  simp only [mkC, mkL, List.mem_toArray, List.mem_append] at hv
  rcases hv with hv | hv
  · exact one_bv k v hv
  · exact h v hv

theorem IsState.form {v : Value} {l : List UInt8} (h : IsState v l) : ∃ cs : Array Value, v = .agg cs ∧ cs.size = 73 ∧ (∀ u ∈ cs.toList, u.oneCell' = true) := by
  obtain ⟨hh, r, rfl, hg⟩ := h
  exact ⟨_, rfl, stC_size _ hg.1 hg.2.1, fun u hu => stL_one _ _ _ u (by simpa [stC] using hu)⟩

theorem len_of {cs : Array Value} {l : List UInt8} (hv : IsState (.agg cs) l) (W : World) : Calls Tryd.prog 29 #[.agg cs] W fun e w' => e = .returned (.int .u64 (l.length : Int)) ∧ Below W.heap.size W w' := by
  obtain ⟨h, r, e, hg⟩ := hv
  cases e
  exact len_any h r l.length W hg.1 hg.2.1

/-- A marker, by the key's 64 bytes, of text t. -/
def IsMarker (v : Value) (k t : List UInt8) : Prop := ∃ st : Array Value, v = .agg (mkC k st) ∧ k.length = 64 ∧ st.size = 73 ∧ (∀ u ∈ st.toList, u.oneCell' = true) ∧ IsState (.agg st) (inner k t)

theorem IsMarker.form {v : Value} {k t : List UInt8} (h : IsMarker v k t) : ∃ cs : Array Value, v = .agg cs ∧ cs.size = 137 ∧ (∀ u ∈ cs.toList, u.oneCell' = true) := by
  obtain ⟨st, rfl, hk, hs, h1, _⟩ := h
  refine ⟨_, rfl, mkC_size hk hs, fun u hu => ?_⟩
  have := Array.all_eq_true_iff_forall_mem.1 (mkC_one (k := k) h1) u (by simpa using hu)
  exact this

def zeroMarker : Array Value := mkC zero64 zeroState
theorem zero_marker : IsMarker (.agg zeroMarker) zero64 [] := ⟨zeroState, rfl, rfl, by kernel_rfl, fun u hu => stL_one _ _ _ u (by simpa [zeroState, stC] using hu), List.replicate 8 0#32, List.replicate 64 0, rfl, goodS_nil⟩
theorem zero_marker_run : ∃ zs, (∀ W, (zeroValue 37).run Tryd.prog W = .ok (.agg zs) W) ∧ zs.size = 137 ∧ zs = zeroMarker := ⟨zeroMarker, fun W => by kernel_rfl, by kernel_rfl, rfl⟩

/-- An array of bytes, sliced whole. -/
theorem slice_key (g : Nat) (W : World) : (Instr.sliceAt 31 (.pointer (some ⟨g, 0, none⟩)) none none none).run Tryd.prog W = .ok (.slice (some ⟨g, 0, none⟩) 64 64) W := by
  have hal : Tryd.prog.arrayLen 31 = 64 := by kernel_rfl
  have hel : Tryd.prog.elem 31 = 5 := by kernel_rfl
  rw [run_sliceAt_array_all W 31 _ (by rw [hal, hel]; exact Tryd.underlying31), hal, hel, size_byte]
  simp [slicedAt, addr_add]
theorem slice_hash_all (g : Nat) (W : World) : (Instr.sliceAt 26 (.pointer (some ⟨g, 0, none⟩)) none none none).run Tryd.prog W = .ok (.slice (some ⟨g, 0, none⟩) 32 32) W := by
  have hal : Tryd.prog.arrayLen 26 = 32 := by kernel_rfl
  have hel : Tryd.prog.elem 26 = 5 := by kernel_rfl
  rw [run_sliceAt_array_all W 26 _ (by rw [hal, hel]; exact Tryd.underlying26), hal, hel, size_byte]
  simp [slicedAt, addr_add]

/-- Bytes that a block holds from its start on. -/
theorem Blk.bysAt {W : World} {g : Nat} {t : TypeId} {cs : Array Value} (h : Blk W g t cs) (l : List UInt8) (n c : Nat) (hn : l.length = n) (hc : ∀ j u, (l.map bv)[j]? = some u → cs[0 + j]? = some u) : Bys W (.slice (some ⟨g, 0, none⟩) n c) l := by
  refine .inr ⟨_, _, by rw [hn], fun i hi => ?_⟩
  rw [addr_add, Nat.zero_add, h.cell]
  have := hc i (bv l[i]) (by simp [hi])
  rwa [Nat.zero_add] at this
theorem Blk.bysOf {W : World} {g : Nat} {t : TypeId} {l : List UInt8} (h : Blk W g t (bs l)) (n c : Nat) (hn : l.length = n) : Bys W (.slice (some ⟨g, 0, none⟩) n c) l :=
  h.bysAt l n c hn fun j u hj => by simpa [bs] using hj
end Go.Proofs.YtlnhjllcgbdalaaDoor
