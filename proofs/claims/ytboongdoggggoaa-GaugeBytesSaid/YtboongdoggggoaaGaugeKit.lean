/- Gauges in blocks of the call's own; rows of floats beside them; what a drawn region asks of gauges and floats. -/
import Derived.Test.YtboongdoggggoaaGaugeAwake
import Derived.Test.YtboongdoggggoaaArms
import Derived.Laws.AppendOwnNone
namespace Go.Proofs.Ytboongdoggggoaa
set_option maxRecDepth 20000
open Go.RowKit EdgeMath Reg

/-- A block that holds a gauge. -/
def GBlk (W : World) (g : Nat) (a : G) : Prop := Blk W g 54 a.cells

theorem gcells_info (a : G) : (Try.prog.info? 54).map (·.size) = some a.cells.size := by
  have h : (Try.prog.info? 54).map (·.size) = some 5 := by kernel_rfl
  exact h

theorem gcells_one (a : G) : a.cells.all (·.oneCell') = true := by simp [EdgeMath.G.cells, Value.oneCell']

theorem GBlk.keep {W W' : World} {g : Nat} {a : G} (h : GBlk W g a) (hb : Below W.heap.size W W') : GBlk W' g a := Blk.keep h hb
theorem GBlk.rowOther {W : World} {g k : Nat} {a : G} (h : GBlk W g a) (xs : Array Value) (hne : g ≠ k) : GBlk (W.setRow k xs) g a := Blk.rowOther h xs hne

theorem GBlk.loads {W : World} {g : Nat} {a : G} (h : GBlk W g a) : (Instr.loadAt 54 (.pointer (some ⟨g, 0, none⟩))).run Try.prog W = .ok (.agg a.cells) W :=
  Blk.loads h 54 _ Try.underlying54 rfl (gcells_info a)

theorem load_num (W : World) (p : Addr) (v : Value) (h : W.cell? p = some v) : (Instr.loadAt 33 (.pointer (some p))).run Try.prog W = .ok v W := by
  have hagg : (isAgg 33).run Try.prog W = .ok false W := by kernel_rfl
  simp [Instr.loadAt, Instr.sureAddr, loadVar, Sem.run_bind, hagg, h]
theorem load_flt (W : World) (p : Addr) (v : Value) (h : W.cell? p = some v) : (Instr.loadAt 52 (.pointer (some p))).run Try.prog W = .ok v W := by
  have hagg : (isAgg 52).run Try.prog W = .ok false W := by kernel_rfl
  simp [Instr.loadAt, Instr.sureAddr, loadVar, Sem.run_bind, hagg, h]

theorem info_float : (Try.prog.info? 52).map (fun i => (i.zero, i.size, i.bytes)) = some (some (.float .f64 0), 1, 8) := by kernel_rfl

def fv (x : Nat) : Value := .float .f64 x

/-- A slice of floats of the call's own, from block B on. -/
def FRow (w : World) (B : Nat) (v : Value) (l : List Nat) : Prop := w.ownsRow B 52 1 v l.length (l.map fv)

theorem FRow.fls {w : World} {B : Nat} {v : Value} {l : List Nat} (h : FRow w B v l) : Fls w v l := by
  have h0 := h
  rcases h.2 with ⟨rfl, hl⟩ | ⟨g, cap, cur, rfl, hB, hg, hn, hm, hs, ht⟩
  · exact .inl ⟨rfl, List.eq_nil_of_length_eq_zero hl⟩
  · refine .inr ⟨g, cap, rfl, hn, fun i hi => ?_⟩
    rw [World.ownsRow.cellAt h0 i (by omega)]
    simp [fv, hi]

theorem ownsRow_to {w w' : World} {B e s : Nat} {v : Value} {n : Nat} {xs : List Value} (h : w.ownsRow B e s v n xs) (hk : ∀ k, v.ownBlock = some k → w'.heap[k]? = w.heap[k]?) : w'.ownsRow B e s v n xs := by
  obtain ⟨h1, h2⟩ := h
  refine ⟨h1, h2.elim .inl fun ⟨g, cap, cur, hv, hB, hg, r⟩ => .inr ⟨g, cap, cur, hv, hB, ?_, r⟩⟩
  rw [hk g (by rw [hv]; rfl)]
  exact hg

theorem ownsRow_keep {w w' : World} {B e s : Nat} {v : Value} {n : Nat} {xs : List Value} (h : w.ownsRow B e s v n xs) (hb : Below w.heap.size w w') : w'.ownsRow B e s v n xs :=
  ownsRow_to h fun k hk => hb.block k (World.ownsRow.lt h k hk).2

/-- A row and a block of another type are apart. -/
theorem ownsRow_apart {w : World} {B e s g t : Nat} {v : Value} {n : Nat} {xs : List Value} {cs : Array Value} (h : w.ownsRow B e s v n xs) (hg : Blk w g t cs) (hne : e ≠ t) : v.ownBlock ≠ some g := by
  rcases h.2 with ⟨rfl, _⟩ | ⟨k, cap, cur, rfl, hB, hk, _⟩
  · simp [Value.ownBlock]
  · simp only [Value.ownBlock]
    intro he
    obtain rfl : k = g := by simpa using he
    unfold Blk at hg
    rw [hg] at hk
    have h := Option.some.inj hk
    injection h with _ h
    exact hne h.symm

theorem FRow.keep {w w' : World} {B : Nat} {v : Value} {l : List Nat} (h : FRow w B v l) (hb : Below w.heap.size w w') : FRow w' B v l := ownsRow_keep h hb

theorem FRow.rowOther {w : World} {B g : Nat} {v : Value} {l : List Nat} {a : G} (h : FRow w B v l) (hg : GBlk w g a) (xs : Array Value) : FRow (w.setRow g xs) B v l :=
  ownsRow_to h fun k hk => setRow_other w g k xs (fun e => ownsRow_apart h hg (by decide) (by rw [← e]; exact hk))

theorem Blk.grown {w w' : World} {B e s g t : Nat} {v : Value} {n : Nat} {xs : List Value} {cs : Array Value} (hg : Blk w g t cs) (h : w.ownsRow B e s v n xs) (hne : e ≠ t) (hgr : w.grownBy w' v.ownBlock) : Blk w' g t cs := by
  have h1 := ownsRow_apart h hg hne
  have hlt := hg.lt
  unfold Blk at *
  rw [hgr.block g hlt (fun e => h1 e.symm)]
  exact hg

theorem float_one (w : World) (x : Value) : ∀ (j : Nat) (u : Value), [x][j]? = some u → (w.alloc (.cells #[x] 52)).cell? ((⟨w.heap.size, 0, none⟩ : Addr).add j) = some u := by
  intro j u h
  cases j with
  | zero => simp at h; subst h; simp [Addr.add, World.cell?_alloc_at]
  | succ j => simp at h

theorem fls_keep {w w' : World} {v : Value} {l : List Nat} (h : Fls w v l) (hb : Below w.heap.size w w') : Fls w' v l := by
  rcases h with h | ⟨g, cap, hv, hl, hc⟩
  · exact .inl h
  · refine .inr ⟨g, cap, hv, hl, fun i hi => ?_⟩
    rw [hb.cell (World.block_lt_of_cell? w _ (hc i hi))]
    exact hc i hi

theorem num_eq (k : Nat) (W : World) : (do eqGuard .eql 33 (.tmp 52) (.tmp 55) (.int .u64 (k : Int)) (.int .u64 (k : Int)); binOp .eql 33 (.int .u64 (k : Int)) (.int .u64 (k : Int)) : Sem Value).run Try.prog W = .ok (.bool true) W := by
  have h : (((k : Int)) == (k : Int)) = true := by simp
  simp [eqGuard, binOp, go_sem]

/-- A float of rank r. -/
def flt (r : Int) : Fact := .sat (fun v _ => ∃ x, v = .float .f64 x ∧ x < 18446744073709551616 ∧ rk x = r) (fun _ _ _ h _ => h)

def isFlt (f : Fact) (r : Int) : Prop := ∀ v W, f.holds v W → ∃ x, v = .float .f64 x ∧ x < 18446744073709551616 ∧ rk x = r

theorem isFlt_flt (r : Int) : isFlt (flt r) r := fun _ _ h => h
theorem isFlt_is {x : Nat} {r : Int} (hx : x < 18446744073709551616) (h : rk x = r) : isFlt (.is (.float .f64 x)) r := fun _ _ e => ⟨x, e, hx, h⟩

section
variable {ops : Array Oper} {tab : List (List Nat)} {fin : List Tmp} {K : World → Prop} {f : Tmp → Fact} {i : Nat} {o : Oper}

/-- Two floats that are one. -/
theorem ask_same_flt (hK : ∀ W W', K W → Below W.heap.size W W' → K W') (hg : guardOk ops f o) (s t : Operand) (r : Int)
    (ho : o.op = .call { callee := .value (.func 71), args := #[s, t], argTypes := #[52, 52] }) (hs : isFlt (opFact f s) r) (ht : isFlt (opFact f t) r) (hd : ∀ k, o.dst = some k → f k = .is (.bool true)) :
    Asked Try.prog ops tab fin K f i o := by
  refine ask_call_by hK hg _ _ _ (.is (.bool true)) ho (by kernel_rfl) hd fun x W hW hk => ?_
  obtain ⟨a, ea, ha, hra⟩ := hs _ _ (told_op hk s (by rw [ho]; simp [Op.operands, Call.operands]))
  obtain ⟨b, eb, hb, hrb⟩ := ht _ _ (told_op hk t (by rw [ho]; simp [Op.operands, Call.operands]))
  simp only [List.map_cons, List.map_nil, ea, eb]
  exact (same_true a b W ha hb (by rw [hra, hrb])).mono fun e w' ⟨h1, h2⟩ => by subst h2; exact ⟨_, h1, rfl, Below.refl _ _⟩
end

theorem conv_len (k : Nat) (hk : k < 9223372036854775808) (W : World) : (convert 3 33 (.int .i64 (k : Int))).run Try.prog W = .ok (.int .u64 (k : Int)) W := by
  have hp : Try.prog.intKind 33 = .u64 := by kernel_rfl
  have h := run_convert_int (P := Try.prog) W 3 33 .i64 (k : Int) (by kernel_rfl) (by rw [hp]; exact Try.underlying33)
  rw [hp] at h
  rw [h, wrap_small k (by omega)]

end Go.Proofs.Ytboongdoggggoaa
