/- Joined: MsgRefGet, MsgCopy, MsgCopied. -/
import Derived.Test.YtidapdooiibfnaaYD
import Derived.Test.YtidapdooiibfnaaYE
import Derived.Test.YtidapdooiibfnaaHK
import Derived.Test.YtidapdooiibfnaaHD
/- Layer 18's reference: Get. -/
namespace Go.Proofs.Ytidapdooiibfnaa
set_option maxRecDepth 20000
open Go.RowKit BinMath CmdMath Reg

theorem refMsgGet_any (v : Option Addr) (len c : Nat) (l : List UInt8) (w : World) (hx : Bys w (.slice v len c) l) (hl : l.length ≤ 140737488351232) (hlc : len ≤ c) :
    Calls Try.prog 16 #[.slice v len c] w (MGetEnd l w) := by
  cases hg : gByte l with
  | error e => exact msgget_no v len c l w hx hl hlc e hg
  | ok p =>
    obtain ⟨k, q⟩ := p
    by_cases hk : 1 ≤ k ∧ k ≤ 5
    · rcases (show k = 1 ∨ k = 2 ∨ k = 3 ∨ k = 4 ∨ k = 5 by omega) with rfl | rfl | rfl | rfl | rfl
      · exact msgget_1 v len c l w hx hl hlc q hg
      · exact msgget_2 v len c l w hx hl hlc q hg
      · exact msgget_3 v len c l w hx hl hlc q hg
      · exact msgget_4 v len c l w hx hl hlc q hg
      · exact msgget_5 v len c l w hx hl hlc q hg
    · exact msgget_odd v len c l w hx hl hlc k q hg hk
end Go.Proofs.Ytidapdooiibfnaa

/- Layer 18: a message in memory of its own: its mathematics. -/
namespace Go.Proofs.Ytidapdooiibfnaa
set_option maxRecDepth 20000
open Go.RowKit BinMath CmdMath Reg
open MsgMath (Mg)

/-- An entry of a copy: what its slices lead to is what it was, or is the copy's own. -/
structure CE (w0 w : World) (B : Nat) (u : EE) : Prop where
  ok : u.e.Ok
  d : Bys w0 (.slice u.a u.e.d.length u.ca) u.e.d ∨ Row w B (.slice u.a u.e.d.length u.ca) u.e.d
  m : Nums w0 (.slice u.b u.e.m.length u.cb) u.e.m ∨ NRow w B (.slice u.b u.e.m.length u.cb) u.e.m
  dl : u.e.d.length ≤ 140737488351232
  ml : u.e.m.length ≤ 17592186043904

theorem CE.has {w0 w : World} {B : Nat} {u : EE} (h : CE w0 w B u) (hb : Below w0.heap.size w0 w) : Has w u.e u.a u.ca u.b u.cb :=
  ⟨h.ok, h.d.elim (fun h => h.below (Nat.le_refl _) hb) fun h => h.bys, h.m.elim (fun h => h.below (Nat.le_refl _) hb) fun h => h.nums, h.dl, by have := h.ml; omega⟩
theorem CE.below {w0 w w' : World} {B : Nat} {u : EE} (h : CE w0 w B u) (hb : Below w.heap.size w w') : CE w0 w' B u :=
  ⟨h.ok, h.d.imp id fun h => ownsRow_keep h hb, h.m.imp id fun h => h.keep hb, h.dl, h.ml⟩
theorem CE.far {w0 w w' : World} {B g : Nat} {u : EE} {cur : Array Value} (h : CE w0 w B u) (hg : Blk w g 42 cur) (ho : OnlyS (fun k => k = g) w w') : CE w0 w' B u :=
  ⟨h.ok, h.d.imp id fun h => row_to h fun k hk => ho.block k (World.ownsRow.lt h k hk).2 (fun e => ownsRow_apart h hg (by decide) (by rw [hk, e])),
    h.m.imp id fun h => h.to fun k hk => ho.block k (World.ownsRow.lt h k hk).2 (fun e => ownsRow_apart h hg (by decide) (by rw [hk, e])), h.dl, h.ml⟩
/-- .. where a block is written that isn't of the copy's lists. -/
theorem CE.msg {w0 w w' : World} {B g : Nat} {u : EE} {cur : Array Value} (h : CE w0 w B u) (hg : Blk w g 27 cur) (ho : OnlyS (fun k => k = g) w w') : CE w0 w' B u :=
  ⟨h.ok, h.d.imp id fun h => row_to h fun k hk => ho.block k (World.ownsRow.lt h k hk).2 (fun e => ownsRow_apart h hg (by decide) (by rw [hk, e])),
    h.m.imp id fun h => h.to fun k hk => ho.block k (World.ownsRow.lt h k hk).2 (fun e => ownsRow_apart h hg (by decide) (by rw [hk, e])), h.dl, h.ml⟩
theorem ERow.msg {w w' : World} {B g : Nat} {v : Value} {us : List EE} {cur : Array Value} (h : ERow w B v us) (hg : Blk w g 27 cur) (ho : OnlyS (fun k => k = g) w w') : ERow w' B v us :=
  ownsRow_to h fun k hk => ho.block k (World.ownsRow.lt h k hk).2 (fun e => ownsRow_apart h hg (by decide) (by rw [hk, e]))
theorem NRow.msg {w w' : World} {B g : Nat} {v : Value} {l : List Nat} {cur : Array Value} (h : NRow w B v l) (hg : Blk w g 27 cur) (ho : OnlyS (fun k => k = g) w w') : NRow w' B v l :=
  ownsRow_to h fun k hk => ho.block k (World.ownsRow.lt h k hk).2 (fun e => ownsRow_apart h hg (by decide) (by rw [hk, e]))

theorem flat_set1 (us : List EE) (i k : Nat) (hk : k < 6) (u u' : EE) (hu : us[i]? = some u) (x : Value) (h : u.cells.set k x = u'.cells) : (us.flatMap EE.cells).set (i * 6 + k) x = (us.set i u').flatMap EE.cells := by
  induction us generalizing i with
  | nil => simp at hu
  | cons v us ih =>
    cases i with
    | zero =>
      simp at hu
      subst hu
      simp only [List.flatMap_cons, List.set_cons_zero, Nat.zero_mul, Nat.zero_add]
      rw [List.set_append_left _ _ (by rw [EE.cells_len]; omega), h]
    | succ i =>
      simp only [List.getElem?_cons_succ] at hu
      simp only [List.flatMap_cons, List.set_cons_succ]
      rw [show (i + 1) * 6 + k = v.cells.length + (i * 6 + k) by rw [EE.cells_len]; omega, List.set_append_right _ _ (by omega), Nat.add_sub_cancel_left, ← ih i hu]

/-- One cell of a row, written. -/
theorem ERow.set {w w' : World} {B c g i k : Nat} {cur : Array Value} {us : List EE} {u u' : EE} {x : Value} (h : ERow w B (.slice (some ⟨g, 0, none⟩) us.length c) us) (hb : Blk w g 42 cur) (hk : k < 6) (hu : us[i]? = some u) (hx : u.cells.set k x = u'.cells)
    (hb' : Blk w' g 42 (cur.setIfInBounds (i * 6 + k) x)) : ERow w' B (.slice (some ⟨g, 0, none⟩) us.length c) (us.set i u') := by
  obtain ⟨h1, h2⟩ := h
  unfold ERow
  rw [← flat_set1 us i k hk u u' hu x hx, List.length_set]
  refine ⟨by simp [h1], ?_⟩
  rcases h2 with ⟨h3, h4⟩ | ⟨g2, cap, cur2, h3, h4, h5, h6, h7, h8, h9⟩
  · cases h3
  · cases h3
    unfold Blk at hb
    rw [hb] at h5
    have e1 := Option.some.inj h5
    injection e1 with e1 _
    subst e1
    refine .inr ⟨g, c, _, rfl, h4, hb', h6, h7, by simpa using h8, ?_⟩
    rw [Array.toList_setIfInBounds, List.take_set, h9]

theorem map_set_same {us : List EE} {i : Nat} {u u' : EE} (hu : us[i]? = some u) (he : u'.e = u.e) : (us.set i u').map EE.e = us.map EE.e := by
  rw [List.map_set]
  apply List.ext_getElem?
  intro j
  rw [List.getElem?_set]
  split
  · rename_i hij
    subst hij
    have hlt : i < (us.map EE.e).length := by
      rw [List.length_map]
      exact (List.getElem?_eq_some_iff.1 hu).1
    rw [if_pos hlt, List.getElem?_map, hu, he]
    rfl
  · rfl

/-- The entries of a copy under way. -/
structure CIn (w0 : World) (B : Nat) (ea : Option Addr) (n ec : Nat) (E : List Ent) (vs : List EE) (W : World) : Prop where
  row : ERow W B (.slice ea n ec) vs
  len : vs.length = n
  same : vs.map EE.e = E
  ce : ∀ u ∈ vs, CE w0 W B u

theorem CIn.below {w0 W W' : World} {B n ec : Nat} {ea : Option Addr} {E : List Ent} {vs : List EE} (h : CIn w0 B ea n ec E vs W) (hb : Below W.heap.size W W') : CIn w0 B ea n ec E vs W' :=
  ⟨h.row.below hb, h.len, h.same, fun u hu => (h.ce u hu).below hb⟩
theorem CIn.msg {w0 W W' : World} {B n ec g : Nat} {ea : Option Addr} {E : List Ent} {vs : List EE} {cur : Array Value} (h : CIn w0 B ea n ec E vs W) (hg : Blk W g 27 cur) (ho : OnlyS (fun k => k = g) W W') : CIn w0 B ea n ec E vs W' :=
  ⟨h.row.msg hg ho, h.len, h.same, fun u hu => (h.ce u hu).msg hg ho⟩
/-- One entry's slice is put in the place of what it was. -/
theorem CIn.put {w0 W W' : World} {B n ec g i k : Nat} {E : List Ent} {vs : List EE} {cur : Array Value} {u u' : EE} {x : Value} (h : CIn w0 B (some ⟨g, 0, none⟩) n ec E vs W) (hb : Blk W g 42 cur) (hk : k < 6) (hu : vs[i]? = some u) (hx : u.cells.set k x = u'.cells) (he : u'.e = u.e)
    (hb' : Blk W' g 42 (cur.setIfInBounds (i * 6 + k) x)) (ho : OnlyS (fun k => k = g) W W') (hc : CE w0 W' B u') : CIn w0 B (some ⟨g, 0, none⟩) n ec E (vs.set i u') W' := by
  obtain ⟨h1, rfl, h3, h4⟩ := h
  refine ⟨h1.set hb hk hu hx hb', by simp, by rw [map_set_same hu he, h3], fun v hv => ?_⟩
  rcases List.mem_or_eq_of_mem_set hv with hv | rfl
  · exact (h4 v hv).far hb ho
  · exact hc

theorem CIn.putM {w0 wr wq wn : World} {B n ec g i : Nat} {E : List Ent} {vs : List EE} {cur : Array Value} {u : EE} {na : Option Addr} {nac : Nat} (h : CIn w0 B (some ⟨g, 0, none⟩) n ec E vs wr) (hW : Below wr.heap.size wr wq) (hb0 : Blk wr g 42 cur) (hu : vs[i]? = some u)
    (hr : NRow wq wr.heap.size (.slice na u.e.m.length nac) u.e.m) (hBW : B ≤ wr.heap.size) (hgl : g < wr.heap.size) (hb : Blk wn g 42 (cur.setIfInBounds (i * 6 + 5) (.slice na u.e.m.length nac))) (ho : OnlyS (fun k => k = g) wq wn) :
    CIn w0 B (some ⟨g, 0, none⟩) n ec E (vs.set i ⟨u.e, u.a, u.ca, na, nac⟩) wn := by
  have hbl := h.below hW
  have hce := (hbl.ce u (List.mem_of_getElem? hu)).far (hb0.keep hW) ho
  refine hbl.put (hb0.keep hW) (by decide) hu rfl rfl hb ho ⟨hce.ok, hce.d, .inr (nrow_low (hr.to fun q hq => ho.block q (World.ownsRow.lt hr q hq).2 (fun e => ?_)) hBW), hce.dl, hce.ml⟩
  have := (World.ownsRow.lt hr q hq).1
  omega

section
variable {ops : Array Oper} {tab : List (List Nat)} {fin : List Tmp} {G : World → Prop} {f : Tmp → Fact} {i : Nat} {o : Oper}
end
end Go.Proofs.Ytidapdooiibfnaa

/- Layer 18's law: copied. -/
namespace Go.Proofs.Ytidapdooiibfnaa
set_option maxRecDepth 20000
open Go.RowKit BinMath CmdMath Reg
open MsgMath (Mg)

end Go.Proofs.Ytidapdooiibfnaa

