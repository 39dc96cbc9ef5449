/- Joined: MsgCopy, NetFarC. -/
import Derived.Test.YtgbhfolbkgibfaaLAY
import Derived.Test.YtgbhfolbkgibfaaLAP
/- Layer 18: a message in memory of its own: its mathematics. -/
namespace Go.Proofs.Ytgbhfolbkgibfaa
set_option maxRecDepth 20000
open Go.RowKit BinMath CmdMath Reg
open MsgMath (Mg)

/-- append([]api.Entry{}, x...). -/
theorem append_ent_lit {w : World} {B g : Nat} {x : Value} {us : List EE} (hB : B ≤ g) (hg : w.heap[g]? = some (.cells #[] 62 (0, 0))) (hx : Els w x us) (hlen : us.length ≤ 1759218604390) :
    ∃ v' w', (Builtin.append_ #[32, 32] 32 #[.slice (some ⟨g, 0, none⟩) 0 0, x]).run Try.prog w = .ok v' w' ∧ ERow w' B v' us ∧ OnlyS (fun k => k = g) w w' := by
  obtain ⟨i0, hi, hz0, hz1, hz2⟩ := info_parts info_ent6
  have hlt : g < w.heap.size := (Array.getElem?_eq_some_iff.1 hg).1
  have hrow : w.ownsRow B 62 6 (.slice (some ⟨g, 0, none⟩) 0 0) 0 [] := ⟨rfl, .inr ⟨g, 0, #[], rfl, hB, hg, Nat.le_refl _, by unfold maxLen; omega, rfl, rfl⟩⟩
  rcases hx with ⟨rfl, rfl⟩ | ⟨ad, cap, rfl, -, hc⟩
  · exact ⟨_, w, run_append_owned_none (P := Try.prog) (w := w) B _ _ _ i0 6 Try.underlying32 hi _ 0 [] hrow, hrow, OnlyS.refl _ _⟩
  · obtain ⟨v', w', hr, h1, h2, -⟩ := run_append_own (P := Try.prog) w B 32 32 62 i0 (.agg zeroC) 6 80 Try.underlying32 hi hz0 hz1 hz2 rfl (by decide) _ 0 [] hrow ad us.length cap (us.flatMap EE.cells) (cells_all us)
      hc (cells_one us) (by unfold maxLen; omega) (by omega) (by omega)
    refine ⟨v', w', hr, ?_, ⟨h2.os, h2.tape, h2.output, h2.size, fun k hk hs => h2.block k hk fun e => hs (by simp [Value.ownBlock] at e; exact e)⟩⟩
    unfold ERow
    rw [Nat.zero_add] at h1
    simpa using h1

/-- An entry of a copy: what its slices lead to is what it was, or is the copy's own. -/
structure CE (w0 w : World) (B : Nat) (u : EE) : Prop where
  ok : u.e.Ok
  d : Bys w0 (.slice u.a u.e.d.length u.ca) u.e.d ∨ Row w B (.slice u.a u.e.d.length u.ca) u.e.d
  m : Nums w0 (.slice u.b u.e.m.length u.cb) u.e.m ∨ NRow w B (.slice u.b u.e.m.length u.cb) u.e.m
  dl : u.e.d.length ≤ 140737488351232
  ml : u.e.m.length ≤ 17592186043904

theorem CE.has {w0 w : World} {B : Nat} {u : EE} (h : CE w0 w B u) (hb : Below w0.heap.size w0 w) : Has w u.e u.a u.ca u.b u.cb :=
  ⟨h.ok, h.d.elim (fun h => h.below (Nat.le_refl _) hb) fun h => h.bys, h.m.elim (fun h => h.below (Nat.le_refl _) hb) fun h => h.nums, h.dl, by have := h.ml; omega⟩
theorem CE.below {w0 w w' : World} {B : Nat} {u : EE} (h : CE w0 w B u) (hb : Below w.heap.size w w') : CE w0 w' B u :=
  ⟨h.ok, h.d.imp id fun h => ownsRow_keep h hb, h.m.imp id fun h => h.keep hb, h.dl, h.ml⟩
theorem CE.far {w0 w w' : World} {B g : Nat} {u : EE} {cur : Array Value} (h : CE w0 w B u) (hg : Blk w g 62 cur) (ho : OnlyS (fun k => k = g) w w') : CE w0 w' B u :=
  ⟨h.ok, h.d.imp id fun h => row_to h fun k hk => ho.block k (World.ownsRow.lt h k hk).2 (fun e => ownsRow_apart h hg (by decide) (by rw [hk, e])),
    h.m.imp id fun h => h.to fun k hk => ho.block k (World.ownsRow.lt h k hk).2 (fun e => ownsRow_apart h hg (by decide) (by rw [hk, e])), h.dl, h.ml⟩
/-- .. where a block is written that isn't of the copy's lists. -/
theorem CE.msg {w0 w w' : World} {B g : Nat} {u : EE} {cur : Array Value} (h : CE w0 w B u) (hg : Blk w g 36 cur) (ho : OnlyS (fun k => k = g) w w') : CE w0 w' B u :=
  ⟨h.ok, h.d.imp id fun h => row_to h fun k hk => ho.block k (World.ownsRow.lt h k hk).2 (fun e => ownsRow_apart h hg (by decide) (by rw [hk, e])),
    h.m.imp id fun h => h.to fun k hk => ho.block k (World.ownsRow.lt h k hk).2 (fun e => ownsRow_apart h hg (by decide) (by rw [hk, e])), h.dl, h.ml⟩
theorem ERow.msg {w w' : World} {B g : Nat} {v : Value} {us : List EE} {cur : Array Value} (h : ERow w B v us) (hg : Blk w g 36 cur) (ho : OnlyS (fun k => k = g) w w') : ERow w' B v us :=
  ownsRow_to h fun k hk => ho.block k (World.ownsRow.lt h k hk).2 (fun e => ownsRow_apart h hg (by decide) (by rw [hk, e]))
theorem NRow.msg {w w' : World} {B g : Nat} {v : Value} {l : List Nat} {cur : Array Value} (h : NRow w B v l) (hg : Blk w g 36 cur) (ho : OnlyS (fun k => k = g) w w') : NRow w' B v l :=
  ownsRow_to h fun k hk => ho.block k (World.ownsRow.lt h k hk).2 (fun e => ownsRow_apart h hg (by decide) (by rw [hk, e]))

/-- A row's block. -/
theorem row_blk {w : World} {B n c : Nat} {a : Option Addr} {us : List EE} (h : ERow w B (.slice a n c) us) (hn : n = us.length) (h0 : 0 < n) : ∃ g cur, a = some ⟨g, 0, none⟩ ∧ B ≤ g ∧ Blk w g 62 cur ∧ n ≤ c ∧ cur.size = c * 6 ∧ cur.toList.take (n * 6) = us.flatMap EE.cells := by
  subst hn
  rcases h.2 with ⟨h3, h4⟩ | ⟨g, cap, cur, h3, h4, h5, h6, h7, h8, h9⟩
  · omega
  · cases h3
    exact ⟨g, cur, rfl, h4, h5, h6, h8, h9⟩

theorem flat_set1 (us : List EE) (i k : Nat) (hk : k < 6) (u u' : EE) (hu : us[i]? = some u) (x : Value) (h : u.cells.set k x = u'.cells) : (us.flatMap EE.cells).set (i * 6 + k) x = (us.set i u').flatMap EE.cells := by
  induction us generalizing i with
  | nil => simp at hu
  | cons v us ih =>
    cases i with
    | zero =>
      simp at hu
      subst hu
      simp only [List.flatMap_cons, List.set_cons_zero, Nat.zero_mul, Nat.zero_add]
      rw [List.set_append_left _ _ (by rw [EE.cells_len]; omega), h]
    | succ i =>
      simp only [List.getElem?_cons_succ] at hu
      simp only [List.flatMap_cons, List.set_cons_succ]
      rw [show (i + 1) * 6 + k = v.cells.length + (i * 6 + k) by rw [EE.cells_len]; omega, List.set_append_right _ _ (by omega), Nat.add_sub_cancel_left, ← ih i hu]

/-- One cell of a row, written. -/
theorem ERow.set {w w' : World} {B c g i k : Nat} {cur : Array Value} {us : List EE} {u u' : EE} {x : Value} (h : ERow w B (.slice (some ⟨g, 0, none⟩) us.length c) us) (hb : Blk w g 62 cur) (hk : k < 6) (hu : us[i]? = some u) (hx : u.cells.set k x = u'.cells)
    (hb' : Blk w' g 62 (cur.setIfInBounds (i * 6 + k) x)) : ERow w' B (.slice (some ⟨g, 0, none⟩) us.length c) (us.set i u') := by
  obtain ⟨h1, h2⟩ := h
  unfold ERow
  rw [← flat_set1 us i k hk u u' hu x hx, List.length_set]
  refine ⟨by simp [h1], ?_⟩
  rcases h2 with ⟨h3, h4⟩ | ⟨g2, cap, cur2, h3, h4, h5, h6, h7, h8, h9⟩
  · cases h3
  · cases h3
    unfold Blk at hb
    rw [hb] at h5
    have e1 := Option.some.inj h5
    injection e1 with e1 _
    subst e1
    refine .inr ⟨g, c, _, rfl, h4, hb', h6, h7, by simpa using h8, ?_⟩
    rw [Array.toList_setIfInBounds, List.take_set, h9]

theorem map_set_same {us : List EE} {i : Nat} {u u' : EE} (hu : us[i]? = some u) (he : u'.e = u.e) : (us.set i u').map EE.e = us.map EE.e := by
  rw [List.map_set]
  apply List.ext_getElem?
  intro j
  rw [List.getElem?_set]
  split
  · rename_i hij
    subst hij
    have hlt : i < (us.map EE.e).length := by
      rw [List.length_map]
      exact (List.getElem?_eq_some_iff.1 hu).1
    rw [if_pos hlt, List.getElem?_map, hu, he]
    rfl
  · rfl

/-- The entries of a copy under way. -/
structure CIn (w0 : World) (B : Nat) (ea : Option Addr) (n ec : Nat) (E : List Ent) (vs : List EE) (W : World) : Prop where
  row : ERow W B (.slice ea n ec) vs
  len : vs.length = n
  same : vs.map EE.e = E
  ce : ∀ u ∈ vs, CE w0 W B u

theorem CIn.below {w0 W W' : World} {B n ec : Nat} {ea : Option Addr} {E : List Ent} {vs : List EE} (h : CIn w0 B ea n ec E vs W) (hb : Below W.heap.size W W') : CIn w0 B ea n ec E vs W' :=
  ⟨h.row.below hb, h.len, h.same, fun u hu => (h.ce u hu).below hb⟩
theorem CIn.msg {w0 W W' : World} {B n ec g : Nat} {ea : Option Addr} {E : List Ent} {vs : List EE} {cur : Array Value} (h : CIn w0 B ea n ec E vs W) (hg : Blk W g 36 cur) (ho : OnlyS (fun k => k = g) W W') : CIn w0 B ea n ec E vs W' :=
  ⟨h.row.msg hg ho, h.len, h.same, fun u hu => (h.ce u hu).msg hg ho⟩
/-- One entry's slice is put in the place of what it was. -/
theorem CIn.put {w0 W W' : World} {B n ec g i k : Nat} {E : List Ent} {vs : List EE} {cur : Array Value} {u u' : EE} {x : Value} (h : CIn w0 B (some ⟨g, 0, none⟩) n ec E vs W) (hb : Blk W g 62 cur) (hk : k < 6) (hu : vs[i]? = some u) (hx : u.cells.set k x = u'.cells) (he : u'.e = u.e)
    (hb' : Blk W' g 62 (cur.setIfInBounds (i * 6 + k) x)) (ho : OnlyS (fun k => k = g) W W') (hc : CE w0 W' B u') : CIn w0 B (some ⟨g, 0, none⟩) n ec E (vs.set i u') W' := by
  obtain ⟨h1, rfl, h3, h4⟩ := h
  refine ⟨h1.set hb hk hu hx hb', by simp, by rw [map_set_same hu he, h3], fun v hv => ?_⟩
  rcases List.mem_or_eq_of_mem_set hv with hv | rfl
  · exact (h4 v hv).far hb ho
  · exact hc

theorem CIn.putD {w0 wr wq wn : World} {B n ec g i : Nat} {E : List Ent} {vs : List EE} {cur : Array Value} {u : EE} {na : Option Addr} {nac : Nat} (h : CIn w0 B (some ⟨g, 0, none⟩) n ec E vs wr) (hW : Below wr.heap.size wr wq) (hb0 : Blk wr g 62 cur) (hu : vs[i]? = some u)
    (hr : Row wq wr.heap.size (.slice na u.e.d.length nac) u.e.d) (hBW : B ≤ wr.heap.size) (hgl : g < wr.heap.size) (hb : Blk wn g 62 (cur.setIfInBounds (i * 6 + 4) (.slice na u.e.d.length nac))) (ho : OnlyS (fun k => k = g) wq wn) :
    CIn w0 B (some ⟨g, 0, none⟩) n ec E (vs.set i ⟨u.e, na, nac, u.b, u.cb⟩) wn := by
  have hbl := h.below hW
  have hce := (hbl.ce u (List.mem_of_getElem? hu)).far (hb0.keep hW) ho
  refine hbl.put (hb0.keep hW) (by decide) hu rfl rfl hb ho ⟨hce.ok, .inr (row_low (row_to hr fun q hq => ho.block q (World.ownsRow.lt hr q hq).2 (fun e => ?_)) hBW), hce.m, hce.dl, hce.ml⟩
  have := (World.ownsRow.lt hr q hq).1
  omega
theorem CIn.putM {w0 wr wq wn : World} {B n ec g i : Nat} {E : List Ent} {vs : List EE} {cur : Array Value} {u : EE} {na : Option Addr} {nac : Nat} (h : CIn w0 B (some ⟨g, 0, none⟩) n ec E vs wr) (hW : Below wr.heap.size wr wq) (hb0 : Blk wr g 62 cur) (hu : vs[i]? = some u)
    (hr : NRow wq wr.heap.size (.slice na u.e.m.length nac) u.e.m) (hBW : B ≤ wr.heap.size) (hgl : g < wr.heap.size) (hb : Blk wn g 62 (cur.setIfInBounds (i * 6 + 5) (.slice na u.e.m.length nac))) (ho : OnlyS (fun k => k = g) wq wn) :
    CIn w0 B (some ⟨g, 0, none⟩) n ec E (vs.set i ⟨u.e, u.a, u.ca, na, nac⟩) wn := by
  have hbl := h.below hW
  have hce := (hbl.ce u (List.mem_of_getElem? hu)).far (hb0.keep hW) ho
  refine hbl.put (hb0.keep hW) (by decide) hu rfl rfl hb ho ⟨hce.ok, hce.d, .inr (nrow_low (hr.to fun q hq => ho.block q (World.ownsRow.lt hr q hq).2 (fun e => ?_)) hBW), hce.dl, hce.ml⟩
  have := (World.ownsRow.lt hr q hq).1
  omega

/-- A list of numbers that is empty, in a block from B on. -/
def nlitF (B : Nat) : Fact := .sat (fun v W => ∃ g, v = .slice (some ⟨g, 0, none⟩) 0 0 ∧ B ≤ g ∧ W.heap[g]? = some (.cells #[] 31 (0, 0))) fun _ _ _ ⟨g, h1, h2, h3⟩ hb => ⟨g, h1, h2, by rw [hb.block g (Array.getElem?_eq_some_iff.1 h3).1]; exact h3⟩
def nrowF (B : Nat) (l : List Nat) : Fact := .sat (fun v W => NRow W B v l) fun _ _ _ h hb => h.keep hb

section
variable {ops : Array Oper} {tab : List (List Nat)} {fin : List Tmp} {G : World → Prop} {f : Tmp → Fact} {i : Nat} {o : Oper}
theorem ask_build_nlit (hG : ∀ W W', G W → Below W.heap.size W W' → G W') (hg : guardOk ops f o) (B : Nat) (hB : ∀ W, G W → B ≤ W.heap.size) (ho : o.op = .buildSlice 33 0 #[]) (hd : ∀ k, o.dst = some k → f k = nlitF B) : Asked Try.prog ops tab fin G f i o := by
  refine ask_grow hG hg fun x W hW hk => ?_
  have hr : (Instr.buildSlice 33 0 #[]).run Try.prog W = .ok (.slice (some ⟨W.heap.size, 0, none⟩) 0 0) (W.alloc (.cells #[] 31)) := by
    simp [Instr.buildSlice, run_underlying Try.underlying33, Result.andThen, Instr.fill, newRow, Array.range_zero']
  refine gives_value (v := .slice (some ⟨W.heap.size, 0, none⟩) 0 0) (w' := W.alloc (.cells #[] 31)) ?_ ⟨(Below.refl _ _).alloc (Nat.le_refl _) _, fun k hk => by rw [hd k hk]; exact ⟨_, rfl, hB W hW, heap_alloc_new W _⟩⟩
  simp [execOp, ho, hr, Result.andThen]
theorem ask_append_nlit (hG : ∀ W W', G W → Below W.heap.size W W' → G W') (hg : guardOk ops f o) (s t : Operand) (B : Nat) (l : List Nat) (hty : o.type = 33)
    (ho : o.op = .call { callee := .builtin .append, args := #[s, t], argTypes := #[33, 33] }) (hs : opFact f s = nlitF B) (ht : ∀ x W, G W → Told ops f o x W → Nums W (evalBy x t) l) (hl : l.length ≤ 17592186043904)
    (hd : ∀ k, o.dst = some k → f k = nrowF B l) : Asked Try.prog ops tab fin G f i o := by
  refine ask_grow hG hg fun x W hW hk => ?_
  have h1 := told_op hk s (by rw [ho]; simp [Op.operands, Call.operands])
  rw [hs] at h1
  obtain ⟨g, e1, hB, hgw⟩ := h1
  obtain ⟨v', w', hr, h2, h3⟩ := append_num_lit hB hgw (ht x W hW hk) hl
  rw [← e1] at hr
  refine gives_value (v := v') (w' := w') ?_ ⟨h3, fun k hk => by rw [hd k hk]; exact h2⟩
  simp [execOp, ho, resolve, invoke, builtin, hty, hr, Result.andThen]
end
end Go.Proofs.Ytgbhfolbkgibfaa

/- Layer 19's law: what a copy leads to is the copy's own. -/
namespace Go.Proofs.Ytgbhfolbkgibfaa
set_option maxRecDepth 20000
open Go.RowKit BinMath CmdMath Reg
open MsgMath (Mg)

/-- An entry's lists lie from the block Z on. -/
def EFar (Z : Nat) (u : EE) : Prop := (∀ ad, u.a = some ad → Z ≤ ad.block) ∧ ∀ ad, u.b = some ad → Z ≤ ad.block
theorem far_step {Z j : Nat} {vs vs2 : List EE} {u2 u3 : EE} (h : ∀ i u, i < j → vs[i]? = some u → EFar Z u) (e : vs2 = vs.set j u2) (h3 : EFar Z u3) : ∀ i u, i < j + 1 → (vs2.set j u3)[i]? = some u → EFar Z u := by
  intro i u hi hu
  subst e
  rw [List.set_set] at hu
  by_cases hij : i = j
  · subst hij
    have hl := (List.getElem?_eq_some_iff.1 hu).1
    rw [List.length_set] at hl
    rw [List.getElem?_set_self hl] at hu
    cases hu
    exact h3
  · rw [List.getElem?_set_ne (fun e => hij e.symm)] at hu
    exact h i u (by omega) hu

theorem CE.new {w w8 V : World} {B : Nat} {u : EE} (h : CE w w8 B u) (hB : w.heap.size ≤ B) (hf : EFar w.heap.size u) (hV : ∀ k, w.heap.size ≤ k → k < w8.heap.size → V.heap[k]? = w8.heap[k]?) :
    Has V u.e u.a u.ca u.b u.cb ∧ FreeA V u.a u.e.d.length ∧ FreeA V u.b u.e.m.length := by
  have add0 : ∀ (p : Addr) (n : Nat), (p.add n).block = p.block := fun p n => by unfold Addr.add; split <;> rfl
  have hd : Bys V (.slice u.a u.e.d.length u.ca) u.e.d ∧ FreeA V u.a u.e.d.length := by
    rcases h.d with hd | hd
    · by_cases h0 : u.e.d.length = 0
      · have e := List.eq_nil_of_length_eq_zero h0
        refine ⟨?_, fun ad _ i hi => absurd hi (by omega)⟩
        rcases hd with ⟨e1, e2⟩ | ⟨ad, cap, e1, -⟩
        · exact .inl ⟨e1, e2⟩
        · exact .inr ⟨ad, cap, e1, fun i hi => absurd hi (by omega)⟩
      · exfalso
        rcases hd with ⟨-, e2⟩ | ⟨ad, cap, e1, c1⟩
        · rw [e2] at h0; exact h0 rfl
        · simp only [Value.slice.injEq] at e1
          have h1 := World.block_lt_of_cell? w _ (c1 0 (by omega))
          rw [add0] at h1
          have := hf.1 ad e1.1
          omega
    · have h2 := row_to (w' := V) hd fun k hk => hV k (Nat.le_trans hB (World.ownsRow.lt hd k hk).1) (World.ownsRow.lt hd k hk).2
      exact ⟨h2.bys, freeA_row h2⟩
  have hm : Nums V (.slice u.b u.e.m.length u.cb) u.e.m ∧ FreeA V u.b u.e.m.length := by
    rcases h.m with hd | hd
    · by_cases h0 : u.e.m.length = 0
      · have e := List.eq_nil_of_length_eq_zero h0
        refine ⟨?_, fun ad _ i hi => absurd hi (by omega)⟩
        rcases hd with ⟨e1, e2⟩ | ⟨ad, cap, e1, hl, -⟩
        · exact .inl ⟨e1, e2⟩
        · exact .inr ⟨ad, cap, e1, hl, fun i hi => absurd hi (by omega)⟩
      · exfalso
        rcases hd with ⟨-, e2⟩ | ⟨ad, cap, e1, -, c1⟩
        · rw [e2] at h0; exact h0 rfl
        · simp only [Value.slice.injEq] at e1
          have h1 := World.block_lt_of_cell? w _ (c1 0 (by omega))
          rw [add0] at h1
          have := hf.2 ad e1.1
          omega
    · have h2 := hd.to (w' := V) fun k hk => hV k (Nat.le_trans hB (World.ownsRow.lt hd k hk).1) (World.ownsRow.lt hd k hk).2
      exact ⟨h2.nums, freeA_row h2⟩
  exact ⟨⟨h.ok, hd.1, hm.1, h.dl, by have := h.ml; omega⟩, hd.2, hm.2⟩

theorem copied_new {w w8 : World} {B B1 B2 n ec nb mc nd gc : Nat} {ea ma ga : Option Addr} {E : List Ent} {us vs : List EE} {m : Mg} {ve vm vg : Value} (hin : CIn w B ea n ec E vs w8) (hB : w.heap.size ≤ B) (hn : n = us.length) (hE : E = us.map EE.e) (hM : MHas w m ve vm vg us) (hf : ∀ u ∈ vs, EFar w.heap.size u)
    (hms : NRow w8 B1 (.slice ma nb mc) m.m) (hgs : Row w8 B2 (.slice ga nd gc) m.g) (h1 : w.heap.size ≤ B1) (h2 : w.heap.size ≤ B2) : MNew w8 w.heap.size m (.slice ea n ec) (.slice ma nb mc) (.slice ga nd gc) vs := by
  intro V hV
  have hr := ownsRow_to (w' := V) hin.row fun k hk => hV k (Nat.le_trans hB (World.ownsRow.lt hin.row k hk).1) (World.ownsRow.lt hin.row k hk).2
  have hm := hms.to (w' := V) fun k hk => hV k (Nat.le_trans h1 (World.ownsRow.lt hms k hk).1) (World.ownsRow.lt hms k hk).2
  have hg := row_to (w' := V) hgs fun k hk => hV k (Nat.le_trans h2 (World.ownsRow.lt hgs k hk).1) (World.ownsRow.lt hgs k hk).2
  have hc := fun u hu => (hin.ce u hu).new hB (hf u hu) hV
  exact ⟨⟨hM.ok, ERow.els hr, fun u hu => (hc u hu).1, by rw [hin.same, hE]; exact hM.ents, hm.nums, hg.bys, by have := hin.len; have := hM.ul; omega, hM.ml, hM.gl⟩, free_of (freeA_row hr), free_of (freeA_row hm), free_of (freeA_row hg), fun u hu => (hc u hu).2⟩
end Go.Proofs.Ytgbhfolbkgibfaa

