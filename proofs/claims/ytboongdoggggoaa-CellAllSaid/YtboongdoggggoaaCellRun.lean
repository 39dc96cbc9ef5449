/- A run of the laws: a disk, a cell on it, the reference's. -/
import Derived.Test.YtboongdoggggoaaCellRef
namespace Go.Proofs.Ytboongdoggggoaa
set_option maxRecDepth 20000
open Go.RowKit Go.Maps DiskMath SwapMath CellMath BinMath Reg

abbrev qV : Nm := [118, 111, 116, 101]
theorem qV_wn : wn qV := by decide

/-- The run's cells. -/
abbrev runC (d : Nat) (x : Option Addr) (y : Nat) : Array Value := #[dp d, .pointer x, .pointer (some ⟨y, 0, none⟩)]

/-- A run whose cell isn't told: B its block, y the reference's cell, made since w0. -/
structure RunD (w0 : World) (B y d c : Nat) (p : Option Addr) (s : St) (V : RV) (W : World) (T : Nat → Prop) : Prop where
  disk : IsDisk W T d c s
  aT : ∀ k, T k → w0.heap.size ≤ k
  nB : ¬ T B
  ny : ¬ T y
  ref : Blk W y 77 (rC V)
  run : Blk W B 72 (runC d p y)
  aB : w0.heap.size ≤ B
  ay : w0.heap.size ≤ y
  bel : Below w0.heap.size w0 W

/-- A run. -/
structure Run (w0 : World) (B y d c z x : Nat) (s : St) (t : Tx) (o : Bool) (V : RV) (W : World) (U : Nat → Prop) : Prop where
  sw : Sw W U x d c qV s t o
  aU : ∀ k, U k → w0.heap.size ≤ k
  nB : ¬ U B
  ny : ¬ U y
  nz : ¬ U z
  ref : Blk W y 77 (rC V)
  run : Blk W B 72 (runC d (some ⟨z, 0, none⟩) y)
  vault : IsC W z x
  aB : w0.heap.size ≤ B
  ay : w0.heap.size ≤ y
  az : w0.heap.size ≤ z
  bel : Below w0.heap.size w0 W

theorem blk_types {w : World} {a b : Nat} {t u : TypeId} {ca cb : Array Value} (h1 : Blk w a t ca) (h2 : Blk w b u cb) (hne : t ≠ u) : a ≠ b := fun e => by
  subst e
  unfold Blk at h1 h2
  rw [h1] at h2
  simp at h2
  exact hne h2.2

theorem Blk.stays {w w' : World} {g : Nat} {t : TypeId} {cs : Array Value} (h : Blk w g t cs) (hs : w'.heap[g]? = w.heap[g]?) : Blk w' g t cs := by
  unfold Blk at h ⊢
  rw [hs]
  exact h

section
variable {w0 W W' : World} {B y d c z x : Nat} {p : Option Addr} {q : Nm} {s : St} {t : Tx} {o : Bool} {V : RV} {T U : Nat → Prop}

/-- A call of the disk leaves the text. -/
theorem Sw.call (h : Sw W U x d c q s t o) : ∃ T, IsDisk W T d c s ∧ (∀ k, T k → U k) ∧ ∀ c' s' W', Next W T d c' s' W' → SNx W U x d c' q s' t o W' := by
  obtain ⟨T, v, h1, h2, h3, h4, h5, h6⟩ := h.ex
  refine ⟨T, h1, h6, fun c' s' W' hn => ⟨⟨⟨more W T W', v, hn.disk, hn.isFile h2 h4, h3.same fun k hk => hn.only.block k (h3.lt hk).2 (h5 k hk).1, more_not h4 h2.lt, fun k hk => ⟨more_not (h5 k hk).1 (h3.lt hk).2, .inl (h5 k hk).2⟩, fun k hk => hk.imp (h6 k) id⟩, .inl h.ux, fun k hk => ?_, h.short⟩, hn.only.mono fun k _ hk => h6 k hk⟩⟩
  have := hn.only.size
  rcases hk with hk | hk
  · have := h.lt k hk; omega
  · exact hk.2

theorem Run.base (h : Run w0 B y d c z x s t o V W U) : RunD w0 B y d c (some ⟨z, 0, none⟩) s V W U :=
  ⟨h.sw.disk, h.aU, h.nB, h.ny, h.ref, h.run, h.aB, h.ay, h.bel⟩

theorem RunD.below (h : RunD w0 B y d c p s V W T) (hb : Below W.heap.size W W') : RunD w0 B y d c p s V W' T :=
  ⟨h.disk.below hb, h.aT, h.nB, h.ny, h.ref.keep hb, h.run.keep hb, h.aB, h.ay, h.bel.trans (hb.mono h.bel.size)⟩

theorem Run.below (h : Run w0 B y d c z x s t o V W U) (hb : Below W.heap.size W W') : Run w0 B y d c z x s t o V W' U :=
  ⟨h.sw.below hb, h.aU, h.nB, h.ny, h.nz, h.ref.keep hb, h.run.keep hb, h.vault.keep hb, h.aB, h.ay, h.az, h.bel.trans (hb.mono h.bel.size)⟩

theorem RunD.tight {c' : Nat} (h : RunD w0 B y d c p s V W T) (hc : s.sure.length + s.ops.length ≤ c') (h2 : c' ≤ 2000) : RunD w0 B y d c' p s V W T := { h with disk := h.disk.tight hc h2 }
theorem Run.tight {c' : Nat} (h : Run w0 B y d c z x s t o V W U) (hc : s.sure.length + s.ops.length ≤ c') (h2 : c' ≤ 2000) : Run w0 B y d c' z x s t o V W U := { h with sw := h.sw.tight hc h2 }

/-- The disk's call. -/
theorem RunD.next {c' : Nat} {s' : St} (h : RunD w0 B y d c p s V W T) (hn : Next W T d c' s' W') : RunD w0 B y d c' p s' V W' (more W T W') where
  disk := hn.disk
  aT k hk := by
    have := h.bel.size
    rcases hk with hk | hk
    · exact h.aT k hk
    · omega
  nB := more_not h.nB h.run.lt
  ny := more_not h.ny h.ref.lt
  ref := hn.blk h.ref h.ny
  run := hn.blk h.run h.nB
  aB := h.aB
  ay := h.ay
  bel := h.bel.trans (hn.only.below (fun k hk hT => by have := h.aT k hT; omega) h.bel.size)

/-- The cell's call. -/
theorem Run.snx {c' : Nat} {s' : St} {t' : Tx} {o' : Bool} (h : Run w0 B y d c z x s t o V W U) (hn : SNx W U x d c' qV s' t' o' W') : Run w0 B y d c' z x s' t' o' V W' (more W U W') where
  sw := hn.sw
  aU k hk := by
    have := h.bel.size
    rcases hk with hk | hk
    · exact h.aU k hk
    · omega
  nB := more_not h.nB h.run.lt
  ny := more_not h.ny h.ref.lt
  nz := more_not h.nz h.vault.lt
  ref := hn.blk h.ref h.ny
  run := hn.blk h.run h.nB
  vault := hn.blk h.vault h.nz
  aB := h.aB
  ay := h.ay
  az := h.az
  bel := h.bel.trans (hn.only.below (fun k hk hT => by have := h.aU k hT; omega) h.bel.size)

/-- The reference's call. -/
theorem RunD.refd {V' : RV} (h : RunD w0 B y d c p s V W T) (hr : RNx W y V' W') : RunD w0 B y d c p s V' W' T where
  disk := h.disk.same (fun k hk => hr.2.block k (h.disk.lt k hk) fun e => by subst e; exact h.ny hk) hr.2.size
  aT := h.aT
  nB := h.nB
  ny := h.ny
  ref := hr.1
  run := h.run.stays (hr.2.block B h.run.lt (blk_types h.run h.ref (by decide)))
  aB := h.aB
  ay := h.ay
  bel := h.bel.trans (hr.2.below (fun k hk e => by have := h.ay; omega) h.bel.size)

theorem Run.refd {V' : RV} (h : Run w0 B y d c z x s t o V W U) (hr : RNx W y V' W') : Run w0 B y d c z x s t o V' W' U where
  sw := h.sw.same (fun k hk => hr.2.block k (h.sw.lt k hk) fun e => by subst e; exact h.ny hk) hr.2.size
  aU := h.aU
  nB := h.nB
  ny := h.ny
  nz := h.nz
  ref := hr.1
  run := h.run.stays (hr.2.block B h.run.lt (blk_types h.run h.ref (by decide)))
  vault := h.vault.stays (hr.2.block z h.vault.lt (blk_types h.vault h.ref (by decide)))
  aB := h.aB
  ay := h.ay
  az := h.az
  bel := h.bel.trans (hr.2.below (fun k hk e => by have := h.ay; omega) h.bel.size)

/-- A cell is put into the run. -/
theorem RunD.put (h : RunD w0 B y d c p s V W T) (hs : Sw W U x d c qV s t o) (hv : IsC W z x) (hz : ¬ U z) (hU : ∀ k, U k → T k ∨ w0.heap.size ≤ k) (hB : ¬ U B) (hy : ¬ U y) (haz : w0.heap.size ≤ z) : Run w0 B y d c z x s t o V (W.setCell ⟨B, 1, none⟩ (.pointer (some ⟨z, 0, none⟩))) U where
  sw := hs.same (fun k hk => heap_set_other (fun e => by subst e; exact hB hk) _) (by simp [World.setCell])
  aU k hk := (hU k hk).elim (h.aT k) id
  nB := hB
  ny := hy
  nz := hz
  ref := h.ref.stays (heap_set_other (blk_types h.ref h.run (by decide)) _)
  run := Blk.set h.run 1 _
  vault := hv.stays (heap_set_other (blk_types hv h.run (by decide)) _)
  aB := h.aB
  ay := h.ay
  az := haz
  bel := h.bel.setCell h.aB _
end

theorem eq_in (a b c d : Int) (w : World) : (Op.equalIn 10000 63 (.agg #[.int .u64 a, .int .u64 b]) (.agg #[.int .u64 c, .int .u64 d])).run Try.prog w = .ok (a == c && b == d) w := by
  have u := Try.underlying33
  have ag := Try.isAgg33
  have z := Try.sizeOf33
  rw [run_equalIn_agg w 9999 63 _ _ (by kernel_rfl) (by kernel_rfl)]
  simp only [Program.fieldsOf, Try.underlying63]
  go_simp
  by_cases h1 : a = c <;> by_cases h2 : b = d <;> simp [h1, h2]

theorem eql_self (s t : Operand) (a b : Nat) (W : World) : (do eqGuard .eql 63 s t (hv (a, b)) (hv (a, b)); binOp .eql 63 (hv (a, b)) (hv (a, b)) : Sem Value).run Try.prog W = .ok (.bool true) W := by
  have hg : Try.prog.eqGuardType Try.prog.depth 63 = false := by kernel_rfl
  simp [eqGuard, go_sem, hg, eq_in]

theorem neq_self (s t : Operand) (a b : Nat) (W : World) : (do eqGuard .neq 63 s t (hv (a, b)) (hv (a, b)); binOp .neq 63 (hv (a, b)) (hv (a, b)) : Sem Value).run Try.prog W = .ok (.bool false) W := by
  have hg : Try.prog.eqGuardType Try.prog.depth 63 = false := by kernel_rfl
  simp [eqGuard, go_sem, hg, eq_in]

theorem load_cp (W : World) (p : Addr) (v : Value) (h : W.cell? p = some v) : (Instr.loadAt 69 (.pointer (some p))).run Try.prog W = .ok v W := by
  have hagg : (isAgg 69).run Try.prog W = .ok false W := by kernel_rfl
  simp [Instr.loadAt, Instr.sureAddr, loadVar, Sem.run_bind, hagg, h]

theorem load_rp (W : World) (p : Addr) (v : Value) (h : W.cell? p = some v) : (Instr.loadAt 70 (.pointer (some p))).run Try.prog W = .ok v W := by
  have hagg : (isAgg 70).run Try.prog W = .ok false W := by kernel_rfl
  simp [Instr.loadAt, Instr.sureAddr, loadVar, Sem.run_bind, hagg, h]

theorem isdown_any {W : World} {T : Nat → Prop} {d c : Nat} {s : St} (h : IsDisk W T d c s) : Calls Try.prog 73 #[dp d] W fun e w' => e = .returned (.bool s.off) ∧ W = w' := by
  obtain ⟨m1, m2, F1, F2, ws, G, hd, ht⟩ := h.ex
  exact down_any hd

theorem IsDisk.fuse_ge {W : World} {T : Nat → Prop} {d c : Nat} {s : St} (h : IsDisk W T d c s) : -1 ≤ s.fuse := by
  obtain ⟨m1, m2, F1, F2, ws, G, hd, ht⟩ := h.ex
  exact hd.fuse.1

end Go.Proofs.Ytboongdoggggoaa
