/- Rows of hashes that grow beside a variable of one hash. -/
import Derived.Test.YtdhfabjkpffhnabDoorLeafConvJ
import Derived.Test.YtdhfabjkpffhnabDoorKF
namespace Go.Proofs.YtdhfabjkpffhnabDoor
set_option maxRecDepth 20000
open Go.RowKit ShaMath LeafMath Reg

/-- A row that is full, or has room for two at least. -/
def Wide (v : Value) : Prop := ∀ a n c, v = .slice a n c → n < c → 2 ≤ c
def row2F (B : Nat) (hs : List Hs) : Fact := .sat (fun v W => OHs W B v hs ∧ Wide v) fun _ _ _ ⟨h1, h2⟩ hb => ⟨h1.below hb, h2⟩
/-- A new variable of one hash. -/
def var32F (B : Nat) : Fact := .sat (fun v W => ∃ g zs, v = .pointer (some ⟨g, 0, none⟩) ∧ B ≤ g ∧ Blk W g 30 zs ∧ zs.size = 32) fun _ _ _ ⟨g, zs, h1, h2, h3, h4⟩ hb => ⟨g, zs, h1, h2, h3.keep hb, h4⟩

theorem append_hlit2 {w : World} {B g : Nat} {x : Value} {hs : List Hs} (hB : B ≤ g) (hg : w.heap[g]? = some (.cells #[] 30 (0, 0))) (hx : Hss w x hs) (hlen : hs.length ≤ 4398046511104) :
    ∃ v' w', (Builtin.append_ #[22, 22] 22 #[.slice (some ⟨g, 0, none⟩) 0 0, x]).run Tryd.prog w = .ok v' w' ∧ OHs w' B v' hs ∧ Below w.heap.size w w' ∧ Wide v' := by
  obtain ⟨v', w', hr, h1, h2⟩ := append_hlit hB hg hx hlen
  refine ⟨v', w', hr, h1, h2, fun a n c e hnc => ?_⟩
  by_cases hl : hs = []
  · subst hl
    exfalso
    obtain ⟨i0, hi, hz0, hz1, hz2⟩ := info_parts info_hash
    rcases hx.at_ with ⟨rfl, -⟩ | ⟨ad, cap, rfl, hlc, hc⟩
    · have hrow : w.ownsRow B 30 32 (.slice (some ⟨g, 0, none⟩) 0 0) 0 [] := ⟨rfl, .inr ⟨g, 0, #[], rfl, hB, hg, Nat.le_refl _, by unfold maxLen; omega, rfl, rfl⟩⟩
      have hr2 := run_append_owned_none (P := Tryd.prog) (w := w) B 22 22 30 i0 32 Tryd.underlying22 hi _ 0 [] hrow
      rw [hr] at hr2
      injection hr2 with e1 _
      rw [e] at e1
      injection e1 with _ _ e2
      omega
    · have hr2 := run_append_room (P := Tryd.prog) w 22 22 30 i0 Tryd.underlying22 hi g 0 0 #[] hg ad 0 cap [] (by simp) (by simp) (by simp) (by omega) (by simp)
      rw [show (List.length ([] : List Hs)) = 0 from rfl] at hr
      rw [hr] at hr2
      injection hr2 with e1 _
      rw [e] at e1
      injection e1 with _ _ e2
      omega
  · have hpos : 0 < hs.length := List.length_pos_iff.2 hl
    obtain ⟨g2, c2, e2, h3, _⟩ := h1.form hpos
    rw [e] at e2
    injection e2 with _ e3 e4
    omega

/-- append of one: either a new row, or the row has room for two at least. -/
theorem append_hs_fine {w : World} {B : Nat} {v x : Value} {hs hs' : List Hs} (hB : B ≤ w.heap.size) (h : OHs w B v hs) (hv : Wide v) (hx : Hss w x hs') (hpos : 0 < hs'.length) (hlen : hs.length + hs'.length ≤ 4398046511104) :
    ∃ v' w', (Builtin.append_ #[22, 22] 22 #[v, x]).run Tryd.prog w = .ok v' w' ∧ OHs w' B v' (hs ++ hs') ∧ w.grownBy w' v.ownBlock ∧
      (w.grownBy w' none ∨ ∃ g cur, v.ownBlock = some g ∧ Blk w g 30 cur ∧ cur.size ≠ 32) := by
  obtain ⟨i0, hi, hz0, hz1, hz2⟩ := info_parts info_hash
  obtain ⟨v', w', hr, h1, h2⟩ := append_hs hB h hx hlen
  refine ⟨v', w', hr, h1, h2, ?_⟩
  rcases hx.at_ with ⟨-, e0⟩ | ⟨ad, cx, rfl, hlc, hc⟩
  · rw [e0] at hpos
    exact absurd hpos (by decide)
  have hcl := hcells_len hx.all
  rcases h.2.2 with ⟨rfl, hn⟩ | ⟨g, cap, cur, rfl, hbg, hg, hnc, hcm, hcs, htake⟩
  · exact .inl h2
  · by_cases hroom : hs.length + hs'.length ≤ cap
    · refine .inr ⟨g, cur, rfl, hg, ?_⟩
      have := hv _ _ _ rfl (by omega)
      omega
    · have holds : ∀ j u, (hcells hs)[j]? = some u → w.cell? ((⟨g, 0, none⟩ : Addr).add j) = some u := World.ownsRow.cells h.2 (g := g) rfl
      have hr2 := run_append_grow (P := Tryd.prog) w 22 22 30 i0 (.agg (bs (List.replicate 32 0))) Tryd.underlying22 hi hz0 ⟨g, 0, none⟩ hs.length cap (hcells hs) (by rw [hz1]; exact hcells_len h.1) holds ad hs'.length cx (hcells hs') (by rw [hz1]; exact hcl) hc (by omega) (by omega) (growslice_fits (by omega) (by rw [hz2]; omega))
      rw [hr] at hr2
      injection hr2 with _ e2
      refine .inl ?_
      rw [e2]
      exact ⟨rfl, rfl, rfl, by simp, fun _ hk _ => heap_alloc_old w.drew _ hk⟩

section
variable {ops : Array Oper} {tab : List (List Nat)} {fin : List Tmp} {G : World → Prop} {f : Tmp → Fact} {i : Nat} {o : Oper}

theorem ask_append_hlit2 (hG : ∀ W W', G W → Below W.heap.size W W' → G W') (hg : guardOk ops f o) (s t : Operand) (B : Nat) (l : List Hs) (hty : o.type = 22)
    (ho : o.op = .call { callee := .builtin .append, args := #[s, t], argTypes := #[22, 22] }) (hs : opFact f s = hlitF B) (ht : ∀ x W, G W → Told ops f o x W → Hss W (evalBy x t) l) (hl : l.length ≤ 4398046511104)
    (hd : ∀ k, o.dst = some k → f k = row2F B l) : Asked Tryd.prog ops tab fin G f i o := by
  refine ask_grow hG hg fun x W hW hk => ?_
  have h1 := told_op hk s (by rw [ho]; simp [Op.operands, Call.operands])
  rw [hs] at h1
  obtain ⟨g, e1, hB, hgw⟩ : ∃ g, evalBy x s = .slice (some ⟨g, 0, none⟩) 0 0 ∧ B ≤ g ∧ W.heap[g]? = some (.cells #[] 30 (0, 0)) := h1
  obtain ⟨v', w', hr, h2, h3, h4⟩ := append_hlit2 hB hgw (ht x W hW hk) hl
  rw [← hty, ← e1] at hr
  refine gives_value (v := v') (w' := w') ?_ ⟨h3, fun k hk => by rw [hd k hk]; exact ⟨h2, h4⟩⟩
  simp only [hty] at hr
  simp [execOp, ho, resolve, invoke, builtin, hty, hr, Result.andThen]

def stillButK (ops : Array Oper) (tab : List (List Nat)) (fin : List Tmp) (f : Tmp → Fact) (i : Nat) (o : Oper) (keeps : List Tmp) : Bool :=
  (fin ++ ops.toList.flatMap (·.looksAt ops)).all fun k => o.dst == some k || !live ops tab fin i k || (f k).still || keeps.contains k
theorem still_butK {keeps : List Tmp} (h : stillButK ops tab fin f i o keeps = true) (k : Tmp) (hne : o.dst ≠ some k) (hl : live ops tab fin i k = true) : (f k).still = true ∨ k ∈ keeps := by
  unfold stillButK at h
  have hm : k ∈ fin ++ ops.toList.flatMap (·.looksAt ops) := by
    unfold live at hl
    rw [Bool.or_eq_true] at hl
    rcases hl with hl | hl
    · exact List.mem_append_left _ (by simpa using hl)
    · obtain ⟨j, hj, h1⟩ := List.any_eq_true.1 hl
      refine List.mem_append_right _ (List.mem_flatMap.2 ?_)
      have hjl : j < ops.size := List.mem_range.1 hj
      refine ⟨ops[j], by simp, ?_⟩
      simp only [Array.getElem?_eq_getElem hjl, Bool.and_eq_true] at h1
      simpa using h1.1.1
  have := List.all_eq_true.1 h k hm
  simpa [hl, hne] using this

/-- append of hashes to a row of the call's own; new variables of one hash stay. -/
theorem ask_append_fine (keeps : List Tmp) (hkeep : ∀ k, k ∈ keeps → ∃ B, f k = var32F B) (hg : guardOk ops f o) (hst : stillButK ops tab fin f i o keeps = true) (s t : Operand) (B : Nat) (l l' : List Hs) (hty : o.type = 22)
    (ho : o.op = .call { callee := .builtin .append, args := #[s, t], argTypes := #[22, 22] }) (hs : opFact f s = row2F B l) (ht : ∀ x W, G W → Told ops f o x W → Hss W (evalBy x t) l') (hp : 0 < l'.length) (hl : l.length + l'.length ≤ 4398046511104)
    (hBG : ∀ W, G W → B ≤ W.heap.size) (hGg : ∀ W W' row, G W → W.grownBy W' row → (∀ k, row = some k → B ≤ k) → G W')
    (hd : ∀ k, o.dst = some k → f k = ohsF B (l ++ l')) : Asked Tryd.prog ops tab fin G f i o := by
  intro x W hW hk
  refine ⟨guard_ok hg hk, ?_⟩
  have h1 := told_op hk s (by rw [ho]; simp [Op.operands, Call.operands])
  rw [hs] at h1
  obtain ⟨h1, hw⟩ : OHs W B (evalBy x s) l ∧ Wide (evalBy x s) := h1
  obtain ⟨v', w', hr, h2, h3, h4⟩ := append_hs_fine (hBG W hW) h1 hw (ht x W hW hk) hp hl
  refine gives_value (v := v') (w' := w') ?_ ⟨hGg W w' _ hW h3 (fun k hk => (World.ownsRow.lt h1.2 k hk).1), fun k u hne hlv hu => ?_, fun k hk => ?_⟩
  · simp [execOp, ho, resolve, invoke, builtin, hty, hr, Result.andThen]
  · rcases still_butK hst k hne hlv with q | q
    · exact Fact.stays q hu
    · obtain ⟨B', e⟩ := hkeep k q
      have hu : (f k).holds u W := hu
      show (f k).holds u w'
      rw [e] at hu ⊢
      obtain ⟨g, zs, e1, e2, e3, e4⟩ : ∃ g zs, u = .pointer (some ⟨g, 0, none⟩) ∧ B' ≤ g ∧ Blk W g 30 zs ∧ zs.size = 32 := hu
      refine ⟨g, zs, e1, e2, ?_, e4⟩
      rcases h4 with h4 | ⟨gr, cur, q1, q2, q3⟩
      · exact (h4.block g e3.lt (fun e => by cases e)).trans e3
      · refine (h3.block g e3.lt (fun e => ?_)).trans e3
        rw [q1] at e
        cases e
        have q4 : W.heap[g]? = some (.cells cur 30 (0, 0)) := q2
        rw [show W.heap[g]? = _ from e3] at q4
        cases q4
        exact q3 e4
  · show (f k).holds v' w'
    rw [hd k hk]
    exact h2
end
end Go.Proofs.YtdhfabjkpffhnabDoor

