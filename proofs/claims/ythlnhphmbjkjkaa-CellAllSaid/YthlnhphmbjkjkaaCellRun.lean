/- A run of the laws: a disk, a cell on it, the reference's. -/
import Derived.Test.YthlnhphmbjkjkaaCellRef
namespace Go.Proofs.Ythlnhphmbjkjkaa
open Go.RowKit Go.Maps DiskMath CellMath BinMath Reg

abbrev qV : Nm := [118, 111, 116, 101]
theorem qV_wn : wn qV := by decide

/-- The run's cells. -/
abbrev runC (d : Nat) (x : Option Addr) (y : Nat) : Array Value := #[dp d, .pointer x, .pointer (some ⟨y, 0, none⟩)]

/-- A run whose cell isn't told: B its block, y the reference's cell, made since w0. -/
structure RunD (w0 : World) (B y d c : Nat) (x : Option Addr) (s : St) (V : RV) (W : World) (T : Nat → Prop) : Prop where
  disk : IsDisk W T d c s
  aT : ∀ k, T k → w0.heap.size ≤ k
  nB : ¬ T B
  ny : ¬ T y
  ref : Blk W y 40 (rC V)
  run : Blk W B 35 (runC d x y)
  aB : w0.heap.size ≤ B
  ay : w0.heap.size ≤ y
  bel : Below w0.heap.size w0 W

/-- A run. -/
structure Run (w0 : World) (B y d c x : Nat) (s : St) (h : Hd) (o : Bool) (V : RV) (W : World) (T : Nat → Prop) : Prop where
  base : RunD w0 B y d c (some ⟨x, 0, none⟩) s V W T
  cell : IsCell W x d qV h o
  nx : ¬ T x
  ax : w0.heap.size ≤ x

section
variable {w0 W W' : World} {B y d c x : Nat} {p : Option Addr} {s : St} {h : Hd} {o : Bool} {V : RV} {T : Nat → Prop}

theorem RunD.below (h : RunD w0 B y d c p s V W T) (hb : Below W.heap.size W W') : RunD w0 B y d c p s V W' T :=
  ⟨h.disk.below hb, h.aT, h.nB, h.ny, h.ref.keep hb, h.run.keep hb, h.aB, h.ay, h.bel.trans (hb.mono h.bel.size)⟩

theorem Run.below (h' : Run w0 B y d c x s h o V W T) (hb : Below W.heap.size W W') : Run w0 B y d c x s h o V W' T := ⟨h'.base.below hb, h'.cell.below hb, h'.nx, h'.ax⟩

theorem RunD.tight {c' : Nat} (h : RunD w0 B y d c p s V W T) (hc : s.sure.length + s.ops.length ≤ c') (h2 : c' ≤ 2000) : RunD w0 B y d c' p s V W T := { h with disk := h.disk.tight hc h2 }

theorem blk_types {w : World} {a b : Nat} {t u : TypeId} {ca cb : Array Value} (h1 : Blk w a t ca) (h2 : Blk w b u cb) (hne : t ≠ u) : a ≠ b := fun e => by
  subst e
  unfold Blk at h1 h2
  rw [h1] at h2
  simp at h2
  exact hne h2.2

/-- The disk's call. -/
theorem RunD.next {c' : Nat} {s' : St} (h : RunD w0 B y d c p s V W T) (hn : Next W T d c' s' W') : RunD w0 B y d c' p s' V W' (more W T W') where
  disk := hn.disk
  aT k hk := by
    have := h.bel.size
    rcases hk with hk | hk
    · exact h.aT k hk
    · omega
  nB := more_not h.nB h.run.lt
  ny := more_not h.ny h.ref.lt
  ref := hn.blk h.ref h.ny
  run := hn.blk h.run h.nB
  aB := h.aB
  ay := h.ay
  bel := h.bel.trans (hn.only.below (fun k hk hT => by have := h.aT k hT; omega) h.bel.size)

theorem Run.next {c' : Nat} {s' : St} (h' : Run w0 B y d c x s h o V W T) (hn : Next W T d c' s' W') : Run w0 B y d c' x s' h o V W' (more W T W') :=
  ⟨h'.base.next hn, hn.isCell h'.cell h'.nx, more_not h'.nx h'.cell.lt, h'.ax⟩

/-- The reference's call. -/
theorem RunD.refd {V' : RV} (h : RunD w0 B y d c p s V W T) (hr : RNx W y V' W') : RunD w0 B y d c p s V' W' T where
  disk := h.disk.same (fun k hk => hr.2.block k (h.disk.lt k hk) fun e => by subst e; exact h.ny hk) hr.2.size
  aT := h.aT
  nB := h.nB
  ny := h.ny
  ref := hr.1
  run := by
    have hne := blk_types h.run h.ref (by decide)
    have h1 := h.run
    unfold Blk at h1 ⊢
    rw [hr.2.block B h.run.lt hne]
    exact h1
  aB := h.aB
  ay := h.ay
  bel := h.bel.trans (hr.2.below (fun k hk e => by have := h.ay; omega) h.bel.size)

theorem Run.refd {V' : RV} (h' : Run w0 B y d c x s h o V W T) (hr : RNx W y V' W') : Run w0 B y d c x s h o V' W' T where
  base := h'.base.refd hr
  cell := by
    have hne := blk_types h'.cell h'.base.ref (by decide)
    have h1 := h'.cell
    unfold IsCell Blk at h1 ⊢
    rw [hr.2.block x h'.cell.lt hne]
    exact h1
  nx := h'.nx
  ax := h'.ax

/-- The cell's call. -/
theorem Run.cnx {c' : Nat} {s' : St} {g : Hd} {o' : Bool} (h' : Run w0 B y d c x s h o V W T) (hn : CNx W T x d c' qV s' g o' W') : Run w0 B y d c' x s' g o' V W' (more W T W') where
  base := {
    disk := hn.disk
    aT := fun k hk => by
      have := h'.base.bel.size
      rcases hk with hk | hk
      · exact h'.base.aT k hk
      · omega
    nB := more_not h'.base.nB h'.base.run.lt
    ny := more_not h'.base.ny h'.base.ref.lt
    ref := by
      have hne := blk_types h'.base.ref h'.cell (by decide)
      have h1 := h'.base.ref
      unfold Blk at h1 ⊢
      rw [hn.only.block y h'.base.ref.lt (fun e => e.elim h'.base.ny hne)]
      exact h1
    run := by
      have hne := blk_types h'.base.run h'.cell (by decide)
      have h1 := h'.base.run
      unfold Blk at h1 ⊢
      rw [hn.only.block B h'.base.run.lt (fun e => e.elim h'.base.nB hne)]
      exact h1
    aB := h'.base.aB
    ay := h'.base.ay
    bel := h'.base.bel.trans (hn.only.below (fun k hk hT => by
      rcases hT with hT | hT
      · have := h'.base.aT k hT; omega
      · have := h'.ax; omega) h'.base.bel.size) }
  cell := hn.cell
  nx := more_not h'.nx h'.cell.lt
  ax := h'.ax

/-- A cell is put into the run. -/
theorem RunD.put (h' : RunD w0 B y d c p s V W T) {x : Nat} (hc : IsCell W x d qV h o) (hx : ¬ T x) (hax : w0.heap.size ≤ x) : Run w0 B y d c x s h o V (W.setCell ⟨B, 1, none⟩ (.pointer (some ⟨x, 0, none⟩))) T where
  base := {
    disk := h'.disk.put h'.nB 1 _
    aT := h'.aT
    nB := h'.nB
    ny := h'.ny
    ref := by
      have hne := blk_types h'.ref h'.run (by decide)
      have h1 := h'.ref
      unfold Blk at h1 ⊢
      rw [heap_set_other hne]
      exact h1
    run := Blk.set h'.run 1 _
    aB := h'.aB
    ay := h'.ay
    bel := h'.bel.setCell h'.aB _ }
  cell := by
    have hne := blk_types hc h'.run (by decide)
    have h1 := hc
    unfold IsCell Blk at h1 ⊢
    rw [heap_set_other hne]
    exact h1
  nx := hx
  ax := hax
end

theorem load_hard {W : World} {B o : Nat} {t : TypeId} {cs : Array Value} {a b : Nat} (h : Blk W B t cs) (h0 : cs[o]? = some (.int .u64 (a : Int))) (h1 : cs[o + 1]? = some (.int .u64 (b : Int))) : (Instr.loadAt 25 (.pointer (some ⟨B, o, none⟩))).run Try.prog W = .ok (hv (a, b)) W :=
  h.loadsAt 25 _ o o [.int .u64 (a : Int), .int .u64 (b : Int)] Try.underlying25 rfl (by kernel_rfl) (fun j u hj => by
    match j, hj with
    | 0, hj => simp at hj; subst hj; simpa using h0
    | 1, hj => simp at hj; subst hj; simpa using h1) rfl

theorem eq_in (a b c d : Int) (w : World) : (Op.equalIn 10000 25 (.agg #[.int .u64 a, .int .u64 b]) (.agg #[.int .u64 c, .int .u64 d])).run Try.prog w = .ok (a == c && b == d) w := by
  have u := Try.underlying23
  have ag := Try.isAgg23
  have z := Try.sizeOf23
  rw [run_equalIn_agg w 9999 25 _ _ (by kernel_rfl) (by kernel_rfl)]
  simp only [Program.fieldsOf, Try.underlying25]
  go_simp
  by_cases h1 : a = c <;> by_cases h2 : b = d <;> simp [h1, h2]

theorem eql_self (s t : Operand) (a b : Nat) (W : World) : (do eqGuard .eql 25 s t (hv (a, b)) (hv (a, b)); binOp .eql 25 (hv (a, b)) (hv (a, b)) : Sem Value).run Try.prog W = .ok (.bool true) W := by
  have hg : Try.prog.eqGuardType Try.prog.depth 25 = false := by kernel_rfl
  simp [eqGuard, go_sem, hg, eq_in]

theorem neq_self (s t : Operand) (a b : Nat) (W : World) : (do eqGuard .neq 25 s t (hv (a, b)) (hv (a, b)); binOp .neq 25 (hv (a, b)) (hv (a, b)) : Sem Value).run Try.prog W = .ok (.bool false) W := by
  have hg : Try.prog.eqGuardType Try.prog.depth 25 = false := by kernel_rfl
  simp [eqGuard, go_sem, hg, eq_in]

theorem load_cp (W : World) (p : Addr) (v : Value) (h : W.cell? p = some v) : (Instr.loadAt 32 (.pointer (some p))).run Try.prog W = .ok v W := by
  have hagg : (isAgg 32).run Try.prog W = .ok false W := by kernel_rfl
  simp [Instr.loadAt, Instr.sureAddr, loadVar, Sem.run_bind, hagg, h]

theorem load_rp (W : World) (p : Addr) (v : Value) (h : W.cell? p = some v) : (Instr.loadAt 33 (.pointer (some p))).run Try.prog W = .ok v W := by
  have hagg : (isAgg 33).run Try.prog W = .ok false W := by kernel_rfl
  simp [Instr.loadAt, Instr.sureAddr, loadVar, Sem.run_bind, hagg, h]

theorem isdown_any {W : World} {T : Nat → Prop} {d c : Nat} {s : St} (h : IsDisk W T d c s) : Calls Try.prog 17 #[dp d] W fun e w' => e = .returned (.bool s.off) ∧ W = w' := by
  obtain ⟨m1, m2, F1, F2, ws, G, hd, ht⟩ := h.ex
  exact down_any hd

theorem IsDisk.fuse_ge {W : World} {T : Nat → Prop} {d c : Nat} {s : St} (h : IsDisk W T d c s) : -1 ≤ s.fuse := by
  obtain ⟨m1, m2, F1, F2, ws, G, hd, ht⟩ := h.ex
  exact hd.fuse.1

end Go.Proofs.Ythlnhphmbjkjkaa
