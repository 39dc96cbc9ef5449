/- append([]bool{true}, keep...). -/
import Derived.Test.YtejmmjlmnfnacaaCellRopen
namespace Go.Proofs.Ytejmmjlmnfnacaa
open Go.RowKit Go.Maps DiskMath SwapMath CellMath BinMath Reg

theorem info_bool : (Try.prog.info? 4).map (fun i => (i.zero, i.size, i.bytes)) = some (some (.bool false), 1, 1) := by kernel_rfl

/-- Choices in memory of the call's own. -/
def Own2 (B : Nat) (bs : List Bool) (v : Value) (w : World) : Prop := w.ownsRow B 4 1 v bs.length (bs.map .bool)

theorem Own2.stays {B : Nat} {bs : List Bool} {v : Value} {w w' : World} (h : Own2 B bs v w) (hb : Below w.heap.size w w') : Own2 B bs v w' := ownRow_same h fun k hk => hb.block k (World.ownsRow.lt h k hk).2

theorem Own2.bls {B : Nat} {bs : List Bool} {v : Value} {w : World} (h : Own2 B bs v w) : ∃ a c, v = .slice a bs.length c ∧ Bls w (.slice a bs.length c) bs := by
  rcases h.2 with ⟨rfl, h0⟩ | ⟨g, cap, cur, rfl, hB, hg, r⟩
  · have hb : bs = [] := List.eq_nil_of_length_eq_zero h0
    subst hb
    exact ⟨none, 0, rfl, none, 0, rfl, fun i b hi => by simp at hi⟩
  · refine ⟨_, _, rfl, some ⟨g, 0, none⟩, cap, rfl, fun i b hi => ⟨_, rfl, ?_⟩⟩
    have hl := (List.getElem?_eq_some_iff.1 hi).1
    have h2 := World.ownsRow.cellAt h i (by simpa using hl)
    rw [addr_add, Nat.zero_add]
    rw [h2]
    simp [hi]

theorem append_keep {w : World} {B : Nat} {v : Value} {ka : Option Addr} {nk ck : Nat} {ks : List Bool} (hB : B ≤ w.heap.size) (h : Own2 B [true] v w) (hk : Bls w (.slice ka nk ck) ks) (hnk : ks.length = nk) (hkn : ka = none → ck = 0) (hnk2 : nk ≤ 140737488351232) :
    ∃ v' w', (Builtin.append_ #[26, 26] 26 #[v, .slice ka nk ck]).run Try.prog w = .ok v' w' ∧ Own2 B (true :: ks) v' w' ∧ w.grownBy w' v.ownBlock := by
  obtain ⟨i0, hi, hz0, hz1, hz2⟩ := info_parts info_bool
  cases ka with
  | none =>
    have hc := hkn rfl
    subst hc
    obtain ⟨a, c, e, hcell⟩ := hk
    have hks : ks = [] := by
      cases ks with
      | nil => rfl
      | cons b r =>
        obtain ⟨ad, h1, -⟩ := hcell 0 b rfl
        cases e
        cases h1
    subst hks
    simp at hnk
    subst hnk
    exact ⟨v, w, run_append_owned_none (P := Try.prog) (w := w) B _ _ _ i0 1 Try.underlying26 hi v 1 [.bool true] h, h, ⟨rfl, rfl, rfl, Nat.le_refl _, fun _ _ _ => rfl⟩⟩
  | some ad =>
    obtain ⟨a, c, e, hcell⟩ := hk
    cases e
    obtain ⟨v', w', hr, h1, h2, -⟩ := run_append_own (P := Try.prog) w B 26 26 4 i0 (.bool false) 1 1 Try.underlying26 hi hz0 hz1 hz2 rfl (by decide) v 1 [.bool true] h ad ks.length ck (ks.map .bool) (by simp) (fun j u hj => by
      rw [List.getElem?_map] at hj
      obtain ⟨b, hb, rfl⟩ := Option.map_eq_some_iff.1 hj
      obtain ⟨ad', e', h3⟩ := hcell j b hb
      cases e'
      exact h3) (fun u hu => by
      obtain ⟨b, -, rfl⟩ := List.mem_map.1 hu
      rfl) (by unfold maxLen; omega) (by omega) hB
    refine ⟨v', w', hr, ?_, h2⟩
    unfold Own2
    rw [List.length_cons, Nat.add_comm ks.length 1]
    exact h1

section
variable {ops : Array Oper} {tab : List (List Nat)} {fin : List Tmp} {G : World → Prop} {f : Tmp → Fact} {i : Nat} {o : Oper}

theorem ask_build_true (hG : ∀ W W', G W → Below W.heap.size W W' → G W') (hg : guardOk ops f o) (B : Nat) (hBG : ∀ W, G W → B ≤ W.heap.size) (ho : o.op = .buildSlice 26 1 #[(0, .const (.bool true))]) (hd : ∀ k, o.dst = some k → f k = .sat (Own2 B [true]) (fun _ _ _ h hb => h.stays hb)) : Asked Try.prog ops tab fin G f i o := by
  refine ask_grow hG hg fun x W hW hk => ?_
  have hz : (zeroValue 4).run Try.prog W = .ok (.bool false) W := by kernel_rfl
  have hr : (Instr.buildSlice 26 1 #[(0, .bool true)]).run Try.prog W = .ok (.slice (some ⟨W.heap.size, 0, none⟩) 1 1) (W.alloc (.cells #[.bool true] 4)) := by
    simp [Instr.buildSlice, run_underlying Try.underlying26, Result.andThen, hz, Instr.fill, newRow, Value.cells, range_one]
  refine gives_value (v := .slice (some ⟨W.heap.size, 0, none⟩) 1 1) (w' := W.alloc (.cells #[.bool true] 4)) ?_ ⟨(Below.refl _ _).alloc (Nat.le_refl _) _, fun k hk => by
    rw [hd k hk]
    exact ⟨rfl, .inr ⟨W.heap.size, 1, #[.bool true], rfl, hBG W hW, heap_alloc_new W _, Nat.le_refl _, by unfold maxLen; omega, rfl, rfl⟩⟩⟩
  simp [execOp, ho, hr, evalBy, Result.andThen]

theorem ask_append_keep (hg : guardOk ops f o) (hst : stillBut ops tab fin f i o = true) (s t : Operand) (B : Nat) {ka : Option Addr} {nk ck : Nat} {ks : List Bool} (hty : o.type = 26)
    (ho : o.op = .call { callee := .builtin .append, args := #[s, t], argTypes := #[26, 26] }) (hs : opFact f s = .sat (Own2 B [true]) (fun _ _ _ h hb => h.stays hb)) (ht : opFact f t = .is (.slice ka nk ck)) (hk : ∀ W, G W → Bls W (.slice ka nk ck) ks) (hnk : ks.length = nk) (hkn : ka = none → ck = 0) (hnk2 : nk ≤ 140737488351232)
    (hBG : ∀ W, G W → B ≤ W.heap.size) (hGg : ∀ W W' row, G W → W.grownBy W' row → (∀ k, row = some k → B ≤ k) → G W')
    (hd : ∀ k, o.dst = some k → f k = .sat (Own2 B (true :: ks)) (fun _ _ _ h hb => h.stays hb)) : Asked Try.prog ops tab fin G f i o := by
  refine ask_write hg hst fun x W hW hkk => ?_
  have h1 := told_op hkk s (by rw [ho]; simp [Op.operands, Call.operands])
  rw [hs] at h1
  have e2 := evalBy_opVal hkk t (by rw [ho]; simp [Op.operands, Call.operands]) ht
  obtain ⟨v', w', hr, h2, h3⟩ := append_keep (hBG W hW) h1 (hk W hW) hnk hkn hnk2
  refine gives_value (v := v') (w' := w') ?_ ⟨hGg W w' _ hW h3 (fun k hk => (World.ownsRow.lt h1 k hk).1), fun k hk => ?_⟩
  · simp [execOp, ho, resolve, invoke, builtin, hty, e2, hr, Result.andThen]
  · rw [hd k hk]
    exact h2
end

end Go.Proofs.Ytejmmjlmnfnacaa
