/- Lists of hashes: wherever they lie, and of a call's own. -/
import Derived.Test.YtbnpgkhdhljjlaaDoorLeafHash
namespace Go.Proofs.YtbnpgkhdhljjlaaDoor
set_option maxRecDepth 20000
open Go.RowKit ShaMath LeafMath Reg

def hcs (x : List UInt8) : List Value := x.map bv
def hcells (hs : List Hs) : List Value := hs.flatMap hcs
def All32 (hs : List Hs) : Prop := ∀ x ∈ hs, x.length = 32

theorem All32.take {hs : List Hs} (h : All32 hs) (i : Nat) : All32 (hs.take i) := fun x hx => h x (List.mem_of_mem_take hx)
theorem All32.drop {hs : List Hs} (h : All32 hs) (i : Nat) : All32 (hs.drop i) := fun x hx => h x (List.mem_of_mem_drop hx)
theorem All32.append {a b : List Hs} (h : All32 a) (h' : All32 b) : All32 (a ++ b) := fun x hx => (List.mem_append.1 hx).elim (h x) (h' x)
theorem All32.nil : All32 [] := fun x hx => by cases hx
theorem All32.one {x : Hs} (h : x.length = 32) : All32 [x] := fun y hy => by rw [List.mem_singleton.1 hy]; exact h
theorem All32.get {hs : List Hs} (h : All32 hs) {i : Nat} {x : Hs} (hi : hs[i]? = some x) : x.length = 32 := h x (List.mem_of_getElem? hi)

theorem hcs_len {x : Hs} (h : x.length = 32) : (hcs x).length = 32 := by simp [hcs, h]
theorem hcells_len {hs : List Hs} (h : All32 hs) : (hcells hs).length = hs.length * 32 := by
  induction hs with
  | nil => rfl
  | cons x hs ih =>
    have := ih fun y hy => h y (by simp [hy])
    unfold hcells at this ⊢
    rw [List.flatMap_cons, List.length_append, hcs_len (h x (by simp)), this, List.length_cons]
    omega
theorem hcells_one (hs : List Hs) : ∀ u ∈ hcells hs, u.oneCell' = true := by
  intro u hu
  obtain ⟨x, _, hx⟩ := List.mem_flatMap.1 hu
  exact one_bv x u hx
theorem hcells_take {hs : List Hs} (h : All32 hs) (i : Nat) : (hcells hs).take (i * 32) = hcells (hs.take i) := by
  induction hs generalizing i with
  | nil => simp [hcells]
  | cons x hs ih =>
    cases i with
    | zero => simp [hcells]
    | succ i =>
      have := ih (fun y hy => h y (by simp [hy])) i
      have hx := hcs_len (h x (by simp))
      unfold hcells at this ⊢
      rw [List.flatMap_cons, List.take_succ_cons, List.flatMap_cons, ← this, show (i + 1) * 32 = (hcs x).length + i * 32 by rw [hx]; omega, List.take_length_add_append]
theorem hcells_drop {hs : List Hs} (h : All32 hs) (i : Nat) : (hcells hs).drop (i * 32) = hcells (hs.drop i) := by
  induction hs generalizing i with
  | nil => simp [hcells]
  | cons x hs ih =>
    cases i with
    | zero => simp [hcells]
    | succ i =>
      have := ih (fun y hy => h y (by simp [hy])) i
      have hx := hcs_len (h x (by simp))
      unfold hcells at this ⊢
      rw [List.flatMap_cons, List.drop_succ_cons, ← this, show (i + 1) * 32 = (hcs x).length + i * 32 by rw [hx]; omega, List.drop_length_add_append]
theorem hcells_append (a b : List Hs) : hcells (a ++ b) = hcells a ++ hcells b := by simp [hcells]
theorem hcells_single (x : Hs) : hcells [x] = hcs x := by simp [hcells]

/-- A list of hashes, wherever it lies. -/
structure Hss (w : World) (v : Value) (hs : List Hs) : Prop where
  all : All32 hs
  at_ : (v = .slice none 0 0 ∧ hs = []) ∨
    ∃ ad cap, v = .slice (some ad) hs.length cap ∧ hs.length ≤ cap ∧ ∀ j u, (hcells hs)[j]? = some u → w.cell? (ad.add j) = some u

theorem Hss.below {w w' : World} {v : Value} {hs : List Hs} (h : Hss w v hs) {B : Nat} (hB : w.heap.size ≤ B) (hb : Below B w w') : Hss w' v hs := by
  refine ⟨h.all, ?_⟩
  rcases h.at_ with h | ⟨ad, cap, hv, hl, hc⟩
  · exact .inl h
  · exact .inr ⟨ad, cap, hv, hl, fun j u hj => by
      have h1 := hc j u hj
      rw [hb.cell (p := ad.add j) (Nat.lt_of_lt_of_le (World.block_lt_of_cell? w _ h1) hB)]
      exact h1⟩

theorem Hss.form {w : World} {v : Value} {hs : List Hs} (h : Hss w v hs) : ∃ a c, v = .slice a hs.length c ∧ hs.length ≤ c := by
  rcases h.at_ with ⟨rfl, rfl⟩ | ⟨ad, cap, rfl, hl, _⟩
  · exact ⟨_, _, rfl, Nat.le_refl _⟩
  · exact ⟨_, _, rfl, hl⟩

theorem Hss.none (w : World) : Hss w (.slice none 0 0) [] := ⟨All32.nil, .inl ⟨rfl, rfl⟩⟩

theorem add_add (ad : Addr) (i j : Nat) : (ad.add i).add j = ad.add (i + j) := by
  by_cases h4 : i = 0
  · by_cases h5 : j = 0
    · simp [Addr.add, h4, h5]
    · simp [Addr.add, h4, h5]
  · by_cases h5 : j = 0
    · simp [Addr.add, h4, h5]
    · simp [Addr.add, h4, h5, Nat.add_assoc]

/-- One of them. -/
theorem Hss.load {w : World} {a : Option Addr} {n c : Nat} {hs : List Hs} (h : Hss w (.slice a n c) hs) {i : Nat} {x : Hs} (hi : hs[i]? = some x) : ∃ ad : Addr, a = some ad ∧ ∀ j v, (hcs x)[j]? = some v → w.cell? ((ad.add (i * 32)).add j) = some v := by
  rcases h.at_ with ⟨_, rfl⟩ | ⟨ad, cap, h1, _, hc⟩
  · simp at hi
  · cases h1
    refine ⟨ad, rfl, fun j v hj => ?_⟩
    have hd := hcells_drop h.all i
    obtain ⟨hlt, hu⟩ := List.getElem?_eq_some_iff.1 hi
    unfold hcells at hd
    rw [List.drop_eq_getElem_cons hlt, List.flatMap_cons, hu] at hd
    have hj6 : j < (hcs x).length := (List.getElem?_eq_some_iff.1 hj).1
    have h2 : (hcells hs)[i * 32 + j]? = some v := by
      unfold hcells
      rw [← List.getElem?_drop, hd, List.getElem?_append_left hj6]
      exact hj
    rw [add_add]
    exact hc _ _ h2

theorem load_hash (W : World) (p : Addr) (x : Hs) (hx : x.length = 32) (h : ∀ j v, (hcs x)[j]? = some v → W.cell? (p.add j) = some v) : (Instr.loadAt 25 (.pointer (some p))).run Tryd.prog W = .ok (.agg (bs x)) W :=
  loads_cells p 25 _ (hcs x) Tryd.underlying25 rfl (by rw [hcs_len hx]; kernel_rfl) h

/-- 'v[lo:hi]'. -/
theorem Hss.sub {w : World} {a : Option Addr} {n c : Nat} {hs : List Hs} (h : Hss w (.slice a n c) hs) (lo hi : Nat) (h1 : lo ≤ hi) (h2 : hi ≤ n) : Hss w (sliced a lo hi c 32) ((hs.take hi).drop lo) := by
  have hall := (h.all.take hi).drop lo
  refine ⟨hall, ?_⟩
  rcases h.at_ with ⟨hv, rfl⟩ | ⟨ad, cap, hv, hl, hc⟩
  · cases hv
    obtain rfl : hi = 0 := by omega
    obtain rfl : lo = 0 := by omega
    exact .inl ⟨by simp [sliced], by simp⟩
  · cases hv
    have hlen : ((hs.take hi).drop lo).length = hi - lo := by rw [List.length_drop, List.length_take]; omega
    refine .inr ⟨if c = lo then ad else ad.add (lo * 32), c - lo, ?_, by rw [hlen]; omega, fun j u hj => ?_⟩
    · unfold sliced
      rw [hlen]
      by_cases e : c = lo
      · rw [if_pos e, if_pos e]
      · rw [if_neg e, if_neg e]
        rfl
    · have hj2 : j < (hi - lo) * 32 := by
        have := (List.getElem?_eq_some_iff.1 hj).1
        rw [hcells_len hall, hlen] at this
        exact this
      have hne : ¬ c = lo := by
        intro e
        have : hi - lo = 0 := by omega
        rw [this] at hj2
        omega
      rw [if_neg hne, add_add]
      rw [← hcells_drop (h.all.take hi), List.getElem?_drop, ← hcells_take h.all, List.getElem?_take] at hj
      split at hj
      · exact hc _ _ hj
      · cases hj

theorem elem_hss : Tryd.prog.elem 22 = 25 := by kernel_rfl
theorem size_hss (w : World) : (Go.sizeOf 25).run Tryd.prog w = .ok 32 w := by kernel_rfl

theorem slice_hs_to (a : Option Addr) (n c k : Nat) (hk : k ≤ c) (W : World) : (Instr.sliceAt 22 (.slice a n c) none (some (.int .i64 (k : Int))) none).run Tryd.prog W = .ok (sliced a 0 k c 32) W := by
  have ht : Tryd.prog.underlying 22 = some (.slice (Tryd.prog.elem 22)) := by rw [elem_hss]; exact Tryd.underlying22
  rw [run_sliceAt_slice _ _ _ _ _ _ ht, run_slice_h _ _ _ _ _ ht .i64 (k : Int) (by omega) (by omega), elem_hss, size_hss]
  simp [Result.andThen]
theorem slice_hs_from (a : Option Addr) (n c k : Nat) (hk : k ≤ n) (W : World) : (Instr.sliceAt 22 (.slice a n c) (some (.int .i64 (k : Int))) none none).run Tryd.prog W = .ok (sliced a k n c 32) W := by
  have ht : Tryd.prog.underlying 22 = some (.slice (Tryd.prog.elem 22)) := by rw [elem_hss]; exact Tryd.underlying22
  rw [run_sliceAt_slice _ _ _ _ _ _ ht, run_slice_l _ _ _ _ _ ht .i64 (k : Int) (by omega) (by omega), elem_hss, size_hss]
  simp [Result.andThen]
theorem slice_hs_mid (a : Option Addr) (n c lo hi : Nat) (h1 : lo ≤ hi) (h2 : hi ≤ c) (W : World) : (Instr.sliceAt 22 (.slice a n c) (some (.int .i64 (lo : Int))) (some (.int .i64 (hi : Int))) none).run Tryd.prog W = .ok (sliced a lo hi c 32) W := by
  have ht : Tryd.prog.underlying 22 = some (.slice (Tryd.prog.elem 22)) := by rw [elem_hss]; exact Tryd.underlying22
  rw [run_sliceAt_slice _ _ _ _ _ _ ht, run_slice_lh _ _ _ _ _ ht .i64 .i64 (lo : Int) (hi : Int) (by omega) (by omega) (by omega), elem_hss, size_hss]
  simp [Result.andThen]

/-! ### Lists of a call's own -/

def OHs (w : World) (B : Nat) (v : Value) (hs : List Hs) : Prop := All32 hs ∧ w.ownsRow B 25 32 v hs.length (hcells hs)

theorem OHs.hss {w : World} {B : Nat} {v : Value} {hs : List Hs} (h : OHs w B v hs) : Hss w v hs := by
  obtain ⟨h0, h⟩ := h
  refine ⟨h0, ?_⟩
  rcases h.2 with ⟨rfl, hl⟩ | ⟨g, cap, cur, rfl, _, hg, hn, hm, hs', ht⟩
  · exact .inl ⟨rfl, List.eq_nil_of_length_eq_zero hl⟩
  · refine .inr ⟨⟨g, 0, Option.none⟩, cap, rfl, hn, fun j u hj => ?_⟩
    rw [addr_add, Nat.zero_add]
    have hc := World.ownsRow.cells h (g := g) rfl
    have := hc j u hj
    rwa [addr_add, Nat.zero_add] at this

theorem OHs.lower {w : World} {B B' : Nat} {v : Value} {hs : List Hs} (h : OHs w B v hs) (hB : B' ≤ B) : OHs w B' v hs := by
  obtain ⟨h0, h1, h2⟩ := h
  refine ⟨h0, h1, ?_⟩
  rcases h2 with h2 | ⟨g, cap, cur, hv, hb, r⟩
  · exact .inl h2
  · exact .inr ⟨g, cap, cur, hv, by omega, r⟩

theorem OHs.below {w w' : World} {B : Nat} {v : Value} {hs : List Hs} (h : OHs w B v hs) (hb : Below w.heap.size w w') : OHs w' B v hs := by
  obtain ⟨h0, h1, h2⟩ := h
  refine ⟨h0, h1, ?_⟩
  rcases h2 with h2 | ⟨g, cap, cur, hv, hB, hg, r⟩
  · exact .inl h2
  · exact .inr ⟨g, cap, cur, hv, hB, by rw [hb.block g (Array.getElem?_eq_some_iff.1 hg).1]; exact hg, r⟩

theorem OHs.none (w : World) (B : Nat) : OHs w B (.slice Option.none 0 0) [] := ⟨All32.nil, World.ownsRow_nil _ _ _ _⟩

theorem info_hash : (Tryd.prog.info? 25).map (fun i => (i.zero, i.size, i.bytes)) = some (some (.agg (bs (List.replicate 32 0))), 32, 32) := by kernel_rfl

/-- append(v, x...), v the call's own. -/
theorem append_hs {w : World} {B : Nat} {v x : Value} {hs hs' : List Hs} (hB : B ≤ w.heap.size) (h : OHs w B v hs) (hx : Hss w x hs') (hlen : hs.length + hs'.length ≤ 4398046511104) :
    ∃ v' w', (Builtin.append_ #[22, 22] 22 #[v, x]).run Tryd.prog w = .ok v' w' ∧ OHs w' B v' (hs ++ hs') ∧ w.grownBy w' v.ownBlock := by
  obtain ⟨i0, hi, hz0, hz1, hz2⟩ := info_parts info_hash
  rcases hx.at_ with ⟨rfl, rfl⟩ | ⟨ad, cap, rfl, hl, hc⟩
  · refine ⟨v, w, run_append_owned_none (P := Tryd.prog) (w := w) B _ _ _ i0 32 Tryd.underlying22 hi v hs.length (hcells hs) h.2, by simpa using h, ?_⟩
    exact ⟨rfl, rfl, rfl, Nat.le_refl _, fun _ _ _ => rfl⟩
  · obtain ⟨v', w', hr, h1, h2, h3⟩ := run_append_own (P := Tryd.prog) w B 22 22 25 i0 (.agg (bs (List.replicate 32 0))) 32 32 Tryd.underlying22 hi hz0 hz1 hz2 rfl (by decide) v hs.length (hcells hs) h.2 ad hs'.length cap (hcells hs') (hcells_len hx.all) hc (hcells_one hs') (by unfold maxLen; omega) (by omega) hB
    refine ⟨v', w', hr, ⟨h.1.append hx.all, ?_⟩, h2⟩
    rw [List.length_append, hcells_append]
    exact h1
end Go.Proofs.YtbnpgkhdhljjlaaDoor
