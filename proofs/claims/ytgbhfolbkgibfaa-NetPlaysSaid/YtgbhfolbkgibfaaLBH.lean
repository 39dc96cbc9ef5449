/- Joined: NetSpoil, NetSpoilW, NetSame. -/
import Derived.Test.YtgbhfolbkgibfaaLAY
import Derived.Test.YtgbhfolbkgibfaaLAP
import Derived.Test.YtgbhfolbkgibfaaCmdEntryL
import Derived.Test.YtgbhfolbkgibfaaLBD
import Derived.Test.YtgbhfolbkgibfaaLBG
import Derived.Test.YtgbhfolbkgibfaaMsgRefSameL
/- Layer 19's law: a message's lists are overwritten: what may be written, and stays so. -/
namespace Go.Proofs.Ytgbhfolbkgibfaa
set_option maxRecDepth 20000
open Go.RowKit BinMath
open CmdMath (Ent)
open MsgMath (Mg)

/-- A number of that kind lies there, in a block of S, and may be written. -/
structure Num (S : Nat → Prop) (W : World) (k : IntKind) (p : Addr) : Prop where
  cell : ∃ z, W.cell? p = some (.int k z)
  free : W.frozen? p = false
  in_ : S p.block

theorem Num.put {S : Nat → Prop} {W : World} {k k' : IntKind} {p q : Addr} (h : Num S W k p) (hq : Num S W k' q) (z : Int) : Num S (W.setCell p (.int k z)) k' q := by
  refine ⟨?_, by rw [World.frozen?_setCell]; exact hq.free, hq.in_⟩
  obtain ⟨y, hy⟩ := hq.cell
  obtain ⟨x, hx⟩ := h.cell
  by_cases e : p = q
  · subst e
    rw [hx] at hy
    cases hy
    exact ⟨z, World.cell?_setCell_same _ _ _ hx⟩
  · exact ⟨y, by rw [World.cell?_setCell_other _ _ _ _ e]; exact hy⟩
theorem Num.slice {S : Nat → Prop} {W : World} {k : IntKind} {p q : Addr} (h : Num S W k p) {a : Option Addr} {n c : Nat} (hq : W.cell? q = some (.slice a n c)) (z : Int) : (W.setCell p (.int k z)).cell? q = some (.slice a n c) := by
  obtain ⟨x, hx⟩ := h.cell
  have e : p ≠ q := fun e => by
    subst e
    rw [hx] at hq
    cases hq
  rw [World.cell?_setCell_other _ _ _ _ e]
  exact hq
theorem Num.lt {S : Nat → Prop} {W : World} {k : IntKind} {p : Addr} (h : Num S W k p) : p.block < W.heap.size := by
  obtain ⟨x, hx⟩ := h.cell
  exact World.block_lt_of_cell? W _ hx

/-- A message's lists, as far as they are overwritten: at W, from w on, the message itself at M. -/
structure Sp (S : Nat → Prop) (w : World) (M : Nat) (m : Mg) (ve vm vg : Value) (us : List EE) (W : World) : Prop where
  only : OnlyS S w W
  msg : Blk W M 36 (mgC m ve vm vg)
  nM : ¬ S M
  sl : ∀ i u, us[i]? = some u → ∃ ad : Addr, (∃ c, ve = .slice (some ad) us.length c) ∧ W.cell? ((ad.add (i * 6)).add 4) = some (.slice u.a u.e.d.length u.ca) ∧ W.cell? ((ad.add (i * 6)).add 5) = some (.slice u.b u.e.m.length u.cb) ∧ Num S W .u64 (ad.add (i * 6))
  da : ∀ u ∈ us, ∀ j, j < u.e.d.length → ∃ ad, u.a = some ad ∧ Num S W .u8 (ad.add j)
  me : ∀ u ∈ us, ∀ j, j < u.e.m.length → ∃ ad, u.b = some ad ∧ Num S W .u64 (ad.add j)
  mm : ∀ j, j < m.m.length → ∃ ad, (∃ c, vm = .slice (some ad) m.m.length c) ∧ Num S W .u64 (ad.add j)
  gg : ∀ j, j < m.g.length → ∃ ad, (∃ c, vg = .slice (some ad) m.g.length c) ∧ Num S W .u8 (ad.add j)

theorem Sp.put {S : Nat → Prop} {w W : World} {M : Nat} {m : Mg} {ve vm vg : Value} {us : List EE} {k : IntKind} {p : Addr} (h : Sp S w M m ve vm vg us W) (hp : Num S W k p) (z : Int) : Sp S w M m ve vm vg us (W.setCell p (.int k z)) where
  only := h.only.setCell (fun _ => hp.in_) _
  msg := h.msg.other p _ fun e => h.nM (e ▸ hp.in_)
  nM := h.nM
  sl := fun i u hu => by
    obtain ⟨ad, h1, h2, h3, h4⟩ := h.sl i u hu
    exact ⟨ad, h1, hp.slice h2 z, hp.slice h3 z, hp.put h4 z⟩
  da := fun u hu j hj => by
    obtain ⟨ad, h1, h2⟩ := h.da u hu j hj
    exact ⟨ad, h1, hp.put h2 z⟩
  me := fun u hu j hj => by
    obtain ⟨ad, h1, h2⟩ := h.me u hu j hj
    exact ⟨ad, h1, hp.put h2 z⟩
  mm := fun j hj => by
    obtain ⟨ad, h1, h2⟩ := h.mm j hj
    exact ⟨ad, h1, hp.put h2 z⟩
  gg := fun j hj => by
    obtain ⟨ad, h1, h2⟩ := h.gg j hj
    exact ⟨ad, h1, hp.put h2 z⟩

/-- A world whose blocks ahead of B are empty. -/
def cutTo (w : World) (B : Nat) : World := { w with heap := w.heap.mapIdx fun k o => if k < B then .cells #[] 0 else o }
theorem cutTo_block (w : World) (B k : Nat) (hk : B ≤ k) : (cutTo w B).heap[k]? = w.heap[k]? := by
  show (w.heap.mapIdx _)[k]? = _
  rw [Array.getElem?_mapIdx]
  cases w.heap[k]? with
  | none => rfl
  | some o => simp [Nat.not_lt.2 hk]
theorem cutTo_cell {w : World} {B : Nat} {p : Addr} {v : Value} (h : (cutTo w B).cell? p = some v) : B ≤ p.block := by
  by_cases hp : B ≤ p.block
  · exact hp
  · exfalso
    unfold World.cell? at h
    have e : (cutTo w B).heap[p.block]? = (w.heap[p.block]?).map fun _ => Obj.cells #[] 0 := by
      show (w.heap.mapIdx _)[p.block]? = _
      rw [Array.getElem?_mapIdx]
      cases w.heap[p.block]? with
      | none => rfl
      | some o => simp [show p.block < B by omega]
    rw [e] at h
    cases hw : w.heap[p.block]? with
    | none => rw [hw] at h; simp at h
    | some o => rw [hw] at h; simp at h

/-- What a new message's lists are, where their blocks are still as they were. -/
theorem MNew.sp {w0 w W : World} {B M : Nat} {m : Mg} {ve vm vg : Value} {us : List EE} (h : MNew w0 B m ve vm vg us) (hs : ∀ k, B ≤ k → k < w0.heap.size → W.heap[k]? = w0.heap[k]?) (ho : OnlyS (fun k => B ≤ k ∧ k < w0.heap.size) w W) (hb : Blk W M 36 (mgC m ve vm vg)) (hM : w0.heap.size ≤ M) :
    Sp (fun k => B ≤ k ∧ k < w0.heap.size) w M m ve vm vg us W := by
  have hW := h W hs
  obtain ⟨hh, hf⟩ := hW
  have hc := (h (cutTo w0 B) fun k hk _ => cutTo_block w0 B k hk).1
  have h0 := h.has
  have num : ∀ {k : IntKind} {p : Addr} {z y x : Int}, W.cell? p = some (.int k z) → W.frozen? p = false → (cutTo w0 B).cell? p = some (.int k y) → w0.cell? p = some (.int k x) → Num (fun k => B ≤ k ∧ k < w0.heap.size) W k p :=
    fun h1 h2 h3 h4 => ⟨⟨_, h1⟩, h2, cutTo_cell h3, World.block_lt_of_cell? w0 _ h4⟩
  have bys : ∀ {a : Option Addr} {n c : Nat} {l : List UInt8}, n = l.length → Bys W (.slice a n c) l → Bys (cutTo w0 B) (.slice a n c) l → Bys w0 (.slice a n c) l → FreeA W a l.length → ∀ j, j < l.length → ∃ ad, a = some ad ∧ Num (fun k => B ≤ k ∧ k < w0.heap.size) W .u8 (ad.add j) := by
    intro a n c l hn h1 h2 h3 h4 j hj
    rcases h1 with ⟨-, e⟩ | ⟨ad, cap, e1, c1⟩
    · rw [e] at hj; simp at hj
    rcases h2 with ⟨-, e⟩ | ⟨ad2, cap2, e2, c2⟩
    · rw [e] at hj; simp at hj
    rcases h3 with ⟨-, e⟩ | ⟨ad3, cap3, e3, c3⟩
    · rw [e] at hj; simp at hj
    cases e1
    cases e2
    cases e3
    exact ⟨ad, rfl, num (c1 j hj) (h4 ad rfl j hj) (c2 j hj) (c3 j hj)⟩
  have nums : ∀ {a : Option Addr} {n c : Nat} {l : List Nat}, n = l.length → Nums W (.slice a n c) l → Nums (cutTo w0 B) (.slice a n c) l → Nums w0 (.slice a n c) l → FreeA W a l.length → ∀ j, j < l.length → ∃ ad, a = some ad ∧ Num (fun k => B ≤ k ∧ k < w0.heap.size) W .u64 (ad.add j) := by
    intro a n c l hn h1 h2 h3 h4 j hj
    rcases h1 with ⟨-, e⟩ | ⟨ad, cap, e1, -, c1⟩
    · rw [e] at hj; simp at hj
    rcases h2 with ⟨-, e⟩ | ⟨ad2, cap2, e2, -, c2⟩
    · rw [e] at hj; simp at hj
    rcases h3 with ⟨-, e⟩ | ⟨ad3, cap3, e3, -, c3⟩
    · rw [e] at hj; simp at hj
    cases e1
    cases e2
    cases e3
    exact ⟨ad, rfl, num (c1 j hj) (h4 ad rfl j hj) (c2 j hj) (c3 j hj)⟩
  obtain ⟨ea, ec, rfl⟩ := hh.els.form
  obtain ⟨ma, mc, rfl⟩ := hh.ms.shape
  obtain ⟨ga, gc, rfl⟩ := hh.gs.shape
  refine ⟨ho, hb, fun e => by omega, fun i u hu => ?_, fun u hu j hj => ?_, fun u hu j hj => ?_, fun j hj => ?_, fun j hj => ?_⟩
  · obtain ⟨ad, e1, l1⟩ := hh.els.load hu
    obtain ⟨ad2, e2, l2⟩ := hc.els.load hu
    obtain ⟨ad3, e3, l3⟩ := h0.els.load hu
    cases e1
    cases e2
    cases e3
    have hil := (List.getElem?_eq_some_iff.1 hu).1
    have hfr := hf.1.at_ trivial ad rfl (i * 6) (by omega)
    have z1 := l1 0 _ rfl
    have z2 := l2 0 _ rfl
    have z3 := l3 0 _ rfl
    have a0 : ∀ p : Addr, p.add 0 = p := fun p => by unfold Addr.add; rw [if_pos rfl]
    rw [a0] at z1 z2 z3
    exact ⟨ad, ⟨_, rfl⟩, l1 4 _ rfl, l1 5 _ rfl, num z1 hfr z2 z3⟩
  · exact bys rfl (hh.all u hu).d (hc.all u hu).d (h0.all u hu).d (hf.2.2.2 u hu).1 j hj
  · exact nums rfl (hh.all u hu).m (hc.all u hu).m (h0.all u hu).m (hf.2.2.2 u hu).2 j hj
  · obtain ⟨ad, e1, e2⟩ := nums rfl hh.ms hc.ms h0.ms (hf.2.1.at_ trivial) j hj
    exact ⟨ad, ⟨mc, by rw [e1]⟩, e2⟩
  · obtain ⟨ad, e1, e2⟩ := bys rfl hh.gs hc.gs h0.gs (hf.2.2.1.at_ trivial) j hj
    exact ⟨ad, ⟨gc, by rw [e1]⟩, e2⟩
end Go.Proofs.Ytgbhfolbkgibfaa

/- Layer 19's law: spoil, walked. -/
namespace Go.Proofs.Ytgbhfolbkgibfaa
set_option maxRecDepth 20000
open Go.RowKit BinMath
open CmdMath (Ent)
open MsgMath (Mg)

set_option maxHeartbeats 8000000 in
theorem spoil_any {w0 : World} {B : Nat} {m : Mg} {ve vm vg : Value} {us : List EE} (h : MNew w0 B m ve vm vg us) (w : World) (hw : ∀ k, B ≤ k → k < w0.heap.size → w.heap[k]? = w0.heap[k]?) (hs : w0.heap.size ≤ w.heap.size) :
    Calls Try.prog 12 #[.agg (mgC m ve vm vg)] w fun e w' => e = .returned (.tuple #[]) ∧ OnlyS (fun k => B ≤ k ∧ k < w0.heap.size) w w' := by
  have hb0 : Below w.heap.size w (w.alloc (.cells (mgC m ve vm vg) 36)) := (Below.refl _ _).alloc (Nat.le_refl _) _
  have HS0 := Lib.hid (h.sp (W := w.alloc (.cells (mgC m ve vm vg) 36)) (w := w) (M := w.heap.size) (fun k h1 h2 => by rw [hb0.block k (Nat.lt_of_lt_of_le h2 hs)]; exact hw k h1 h2) (OnlyS.of_below hb0 fun _ hk _ => hk) (Blk.new w _ _) hs)
  obtain ⟨S, hS⟩ : ∃ S : Nat → Prop, S = fun k => B ≤ k ∧ k < w0.heap.size := ⟨_, rfl⟩
  rw [← hS] at HS0 ⊢
  obtain ⟨a, ca, rfl⟩ := h.has.els.form
  obtain ⟨b, cb, rfl⟩ := h.has.ms.shape
  obtain ⟨d, cd, rfl⟩ := h.has.gs.shape
  have HUl := Lib.hid h.has.ul
  have HMl := Lib.hid h.has.ml
  have HGl := Lib.hid h.has.gl
  have HEl := Lib.hid (show ∀ u ∈ us, u.e.d.length ≤ 140737488351232 ∧ u.e.m.length ≤ 140737488351232 from fun u hu => ⟨(h.has.all u hu).dl, (h.has.all u hu).ml⟩)
  obtain ⟨n, hn⟩ : ∃ n, n = us.length := ⟨_, rfl⟩
  obtain ⟨nb, hnb⟩ : ∃ n, n = m.m.length := ⟨_, rfl⟩
  obtain ⟨nd, hnd⟩ : ∃ n, n = m.g.length := ⟨_, rfl⟩
  have HN := Lib.hid hn
  have HNB := Lib.hid hnb
  have HND := Lib.hid hnd
  rw [← hn, ← hnb, ← hnd] at HS0
  rw [← hn, ← hnb, ← hnd]
  obtain ⟨M, hM⟩ : ∃ M, M = w.heap.size := ⟨_, rfl⟩
  have HMw := Lib.hid hM
  rw [← hM] at HS0
  clear h hw hs hb0 hS hn hnb hnd hM
  go_enter Try.func12, Try.ntmps12
  go_wp2_with fail
  rw [← HMw.out]
  go_loopw [2] (fun s2 wr => ∃ i : Nat, i ≤ n ∧ s2 = .int .i64 (i : Int) ∧ Sp S w M m (.slice a n ca) (.slice b nb cb) (.slice d nd cd) us wr) (fun s2 _ => n - (intOf s2).toNat)
  case atStart => exact ⟨0, Nat.zero_le _, rfl, HS0.out⟩
  case round =>
    obtain ⟨i, hi, rfl, hsp⟩ := hrel
    have HSp := Lib.hid hsp
    have i0 : (0 : Int) ≤ (i : Int) := Int.natCast_nonneg _
    have c9 : wr.cell? ⟨M, 9, none⟩ = some (.slice a n ca) := by rw [hsp.msg.cell]; rfl
    clear hsp HS0
    by_cases hlt : i < n
    · obtain ⟨u, hu⟩ : ∃ u, us[i]? = some u := ⟨us[i]'(by have := HN.out; omega), List.getElem?_eq_getElem _⟩
      have i1 : (i : Int) < (n : Int) := by omega
      obtain ⟨ad, ⟨c', e1⟩, s4, s5, s0⟩ := HSp.out.sl i u hu
      simp only [Value.slice.injEq] at e1
      obtain ⟨rfl, -, -⟩ := e1
      have HU := Lib.hid hu
      clear s4 s5 s0 hu
      go_wp2_with fail
      go_loopw [3] (fun s3 wx => ∃ k : Nat, k ≤ u.e.d.length ∧ s3 = .int .i64 (k : Int) ∧ Sp S w M m (.slice (some ad) n ca) (.slice b nb cb) (.slice d nd cd) us wx) (fun s3 _ => u.e.d.length - (intOf s3).toNat)
      case atStart => exact ⟨0, Nat.zero_le _, rfl, HSp.out⟩
      case round =>
        obtain ⟨k, hk, rfl, hsp⟩ := hrel
        have HSp2 := Lib.hid hsp
        have k0 : (0 : Int) ≤ (k : Int) := Int.natCast_nonneg _
        have k47 : k ≤ 140737488351232 := by have := HEl.out u (List.mem_of_getElem? HU.out); omega
        have c9 : wr.cell? ⟨M, 9, none⟩ = some (.slice (some ad) n ca) := by rw [hsp.msg.cell]; rfl
        obtain ⟨ad', ⟨c', e1⟩, s4, s5, s0⟩ := hsp.sl i u HU.out
        simp only [Value.slice.injEq] at e1
        obtain ⟨e1, -, -⟩ := e1
        cases e1
        have f4 : wr.cell? ⟨(ad.add (i * 6)).block, (ad.add (i * 6)).off + 4, none⟩ = some (.slice u.a u.e.d.length u.ca) := s4
        have f5 : wr.cell? ⟨(ad.add (i * 6)).block, (ad.add (i * 6)).off + 5, none⟩ = some (.slice u.b u.e.m.length u.cb) := s5
        clear hsp s4 s5 s0 HSp
        by_cases hkl : k < u.e.d.length
        · obtain ⟨ap, e2, hnum⟩ := HSp2.out.da u (List.mem_of_getElem? HU.out) k hkl
          rw [e2] at f4
          obtain ⟨z, hz⟩ := hnum.cell
          have hfr := hnum.free
          have k1 : (k : Int) < (u.e.d.length : Int) := by omega
          have HNum := Lib.hid hnum
          obtain ⟨ln, hln⟩ : ∃ q, q = u.e.d.length := ⟨_, rfl⟩
          rw [← hln] at f4 k1
          clear hnum
          go_wp2_with fail
          go_roundw
          case rel => exact ⟨k + 1, by omega, by go_num, HSp2.out.put HNum.out _⟩
          case measure => simp [intOf]; omega
        · have k1 : ¬ (k : Int) < (u.e.d.length : Int) := by omega
          go_wp2_with fail
          go_loopw [4] (fun s4 wx => ∃ k : Nat, k ≤ u.e.m.length ∧ s4 = .int .i64 (k : Int) ∧ Sp S w M m (.slice (some ad) n ca) (.slice b nb cb) (.slice d nd cd) us wx) (fun s4 _ => u.e.m.length - (intOf s4).toNat)
          case atStart => exact ⟨0, Nat.zero_le _, rfl, HSp2.out⟩
          case round =>
            obtain ⟨k, hk, rfl, hsp⟩ := hrel
            have HSp3 := Lib.hid hsp
            have k0 : (0 : Int) ≤ (k : Int) := Int.natCast_nonneg _
            have k47 : k ≤ 140737488351232 := by have := HEl.out u (List.mem_of_getElem? HU.out); omega
            have c9 : wr.cell? ⟨M, 9, none⟩ = some (.slice (some ad) n ca) := by rw [hsp.msg.cell]; rfl
            obtain ⟨ad', ⟨c', e1⟩, s4, s5, s0⟩ := hsp.sl i u HU.out
            simp only [Value.slice.injEq] at e1
            obtain ⟨e1, -, -⟩ := e1
            cases e1
            have f4 : wr.cell? ⟨(ad.add (i * 6)).block, (ad.add (i * 6)).off + 4, none⟩ = some (.slice u.a u.e.d.length u.ca) := s4
            have f5 : wr.cell? ⟨(ad.add (i * 6)).block, (ad.add (i * 6)).off + 5, none⟩ = some (.slice u.b u.e.m.length u.cb) := s5
            clear hsp s4 s5 s0 HSp2
            by_cases hkl : k < u.e.m.length
            · obtain ⟨ap, e2, hnum⟩ := HSp3.out.me u (List.mem_of_getElem? HU.out) k hkl
              rw [e2] at f5
              obtain ⟨z, hz⟩ := hnum.cell
              have hfr := hnum.free
              have k1 : (k : Int) < (u.e.m.length : Int) := by omega
              have HNum := Lib.hid hnum
              obtain ⟨ln, hln⟩ : ∃ q, q = u.e.m.length := ⟨_, rfl⟩
              rw [← hln] at f5 k1
              clear hnum
              go_wp2_with fail
              go_roundw
              case rel => exact ⟨k + 1, by omega, by go_num, HSp3.out.put HNum.out _⟩
              case measure => simp [intOf]; omega
            · have k1 : ¬ (k : Int) < (u.e.m.length : Int) := by omega
              obtain ⟨ad', ⟨c', e1⟩, s4, s5, s0⟩ := HSp3.out.sl i u HU.out
              simp only [Value.slice.injEq] at e1
              obtain ⟨e1, -, -⟩ := e1
              cases e1
              obtain ⟨z, hz⟩ := s0.cell
              have hfr := s0.free
              have HNum := Lib.hid s0
              have HI47 := Lib.hid (show i ≤ 140737488351232 by have := HUl.out; have := HN.out; omega)
              have i47 := HI47.out
              clear s0 s4 s5
              go_wp2_with fail
              go_roundw
              case rel => exact ⟨i + 1, by omega, by go_num, HSp3.out.put HNum.out _⟩
              case measure => simp [intOf]; omega
    · have i1 : ¬ (i : Int) < (n : Int) := by omega
      go_wp2_with fail
      go_loopw [5] (fun s5 wx => ∃ k : Nat, k ≤ nb ∧ s5 = .int .i64 (k : Int) ∧ Sp S w M m (.slice a n ca) (.slice b nb cb) (.slice d nd cd) us wx) (fun s5 _ => nb - (intOf s5).toNat)
      case atStart => exact ⟨0, Nat.zero_le _, rfl, HSp.out⟩
      case round =>
        obtain ⟨k, hk, rfl, hsp⟩ := hrel
        have HSp4 := Lib.hid hsp
        have k0 : (0 : Int) ≤ (k : Int) := Int.natCast_nonneg _
        have k47 : k ≤ 140737488351232 := by have := HMl.out; have := HNB.out; omega
        have cc : wr.cell? ⟨M, 10, none⟩ = some (.slice b nb cb) := by rw [hsp.msg.cell]; rfl
        clear hsp HSp
        by_cases hkl : k < nb
        · obtain ⟨ap, ⟨c', e2⟩, hnum⟩ := HSp4.out.mm k (by have := HNB.out; have := HND.out; omega)
          simp only [Value.slice.injEq] at e2
          obtain ⟨rfl, -, -⟩ := e2
          obtain ⟨z, hz⟩ := hnum.cell
          have hfr := hnum.free
          have k1 : (k : Int) < (nb : Int) := by omega
          have HNum := Lib.hid hnum
          clear hnum
          go_wp2_with fail
          go_roundw
          case rel => exact ⟨k + 1, by omega, by go_num, HSp4.out.put HNum.out _⟩
          case measure => simp [intOf]; omega
        · have k1 : ¬ (k : Int) < (nb : Int) := by omega
          go_wp2_with fail
          go_loopw [6] (fun s6 wx => ∃ k : Nat, k ≤ nd ∧ s6 = .int .i64 (k : Int) ∧ Sp S w M m (.slice a n ca) (.slice b nb cb) (.slice d nd cd) us wx) (fun s6 _ => nd - (intOf s6).toNat)
          case atStart => exact ⟨0, Nat.zero_le _, rfl, HSp4.out⟩
          case round =>
            obtain ⟨k, hk, rfl, hsp⟩ := hrel
            have HSp5 := Lib.hid hsp
            have k0 : (0 : Int) ≤ (k : Int) := Int.natCast_nonneg _
            have k47 : k ≤ 140737488351232 := by have := HGl.out; have := HND.out; omega
            have cc : wr.cell? ⟨M, 11, none⟩ = some (.slice d nd cd) := by rw [hsp.msg.cell]; rfl
            clear hsp HSp4
            by_cases hkl : k < nd
            · obtain ⟨ap, ⟨c', e2⟩, hnum⟩ := HSp5.out.gg k (by have := HNB.out; have := HND.out; omega)
              simp only [Value.slice.injEq] at e2
              obtain ⟨rfl, -, -⟩ := e2
              obtain ⟨z, hz⟩ := hnum.cell
              have hfr := hnum.free
              have k1 : (k : Int) < (nd : Int) := by omega
              have HNum := Lib.hid hnum
              clear hnum
              go_wp2_with fail
              go_roundw
              case rel => exact ⟨k + 1, by omega, by go_num, HSp5.out.put HNum.out _⟩
              case measure => simp [intOf]; omega
            · have k1 : ¬ (k : Int) < (nd : Int) := by omega
              go_wp2_with fail
              go_end0
              exact ⟨rfl, HSp5.out.only⟩
end Go.Proofs.Ytgbhfolbkgibfaa

/- Layer 19's law: same, walked. -/
namespace Go.Proofs.Ytgbhfolbkgibfaa
set_option maxRecDepth 20000
open Go.RowKit Go.Maps BinMath NetMath Reg
open MsgMath (Mg formedM)

theorem neq_int_self (s t : Operand) (l : Nat) (W : World) : (do eqGuard .neq 3 s t (.int .i64 (l : Int)) (.int .i64 (l : Int)); binOp .neq 3 (.int .i64 (l : Int)) (.int .i64 (l : Int)) : Sem Value).run Try.prog W = .ok (.bool false) W := by
  have h : ((l : Int) != (l : Int)) = false := by simp
  simp [eqGuard, go_sem]

set_option maxHeartbeats 4000000 in
theorem netSame_any {hp : NetProg} {Z : Nat} {w : World} {P R : Nat} {n : Nt} {U : Nat → Prop} {vL vW : Value} {xs : List MM} (h : Duo hp Z (fun _ => False) w P R n n U vL vW xs) :
    Calls Try.prog 26 #[.pointer (some ⟨P, 0, none⟩), .pointer (some ⟨R, 0, none⟩)] w fun e w' => e = .returned (.bool true) ∧ Below w.heap.size w w' := by
  obtain ⟨a, c, rfl⟩ := h.lrow.form
  obtain ⟨l, hl⟩ : ∃ l, l = xs.length := ⟨_, rfl⟩
  have HL := Lib.hid hl
  have HD := Lib.hid h
  have HLen := Lib.hid (show n.L.length = l by rw [h.len, hl])
  have hl6 : l ≤ 256 := by rw [hl]; exact h.ll
  have HR := Lib.hid (show Blk w R 30 #[.slice a l c, vW] by rw [hl]; exact h.blk)
  rw [← hl] at HD
  clear h hl
  go_enter Try.func26, Try.ntmps26
  go_upto_region 1 with fail
  have hG : ∀ W W' : World, Below w.heap.size w W → Below W.heap.size W W' → Below w.heap.size w W' := fun W W' hW hb => hW.trans (hb.mono hW.size)
  have HLn := Lib.hid (show ∀ W, Below w.heap.size w W → Calls Try.prog 25 #[.pointer (some ⟨P, 0, none⟩)] W fun e w' => e = .returned (.int .i64 (l : Int)) ∧ Below W.heap.size W w' from fun W hW => by
    have h := hp.len (HD.out.below hW).is_
    rwa [HLen.out] at h)
  have HLd := Lib.hid (show ∀ W, Below w.heap.size w W → (Instr.loadAt 27 (.pointer (some ⟨R, 0, none⟩))).run Try.prog W = .ok (.slice a l c) W from fun W hW => load_ml W ⟨R, 0, none⟩ (.slice a l c) (by rw [(HR.out.keep hW).cell]; rfl))
  refine region_by [(8, .is (.pointer (some ⟨P, 0, none⟩))), (9, .is (.int .i64 (l : Int))), (10, .is (.pointer (some ⟨R, 0, none⟩))), (11, .is (.pointer (some ⟨R, 0, none⟩))), (12, .is (.pointer (some ⟨R, 0, none⟩))), (13, .is (.slice a l c)), (14, .is (.int .i64 (l : Int))), (15, .is (.bool false))] [0, 1, 2, 3, 4, 5, 6, 7, 15, 16, 17, 18, 19, 20, 21, 22, 23, 24, 25, 26, 27, 28, 29, 30, 31, 32, 33, 34, 35, 36, 37, 38, 39, 40, 41, 42, 43, 44, 45, 46] (fun W => Below w.heap.size w W) (by kernel_rfl) (by kernel_rfl) (by kernel_rfl) (by kernel_rfl) (by kernel_rfl) ((Below.refl _ _).drew) ?_ ?_
  · refine ⟨?c0, ?c1, ?c2, ?c3, ?c4, ?c5, ?c6, ?c7, trivial⟩
    case c0 => exact ask_copy (guard_none rfl) (.tmp 0) (.inl rfl) (by intro k hk; cases hk; rfl)
    case c1 => exact ask_call hG (guard_none rfl) _ _ _ #[(.pointer (some ⟨P, 0, none⟩))] (.is (.int .i64 (l : Int))) rfl (by kernel_rfl) rfl rfl (by intro k hk; cases hk; rfl) (fun W hW => (HLn.out W hW).mono fun e w' h => ⟨_, h.1, rfl, h.2⟩)
    case c2 => exact ask_copy (guard_none rfl) (.tmp 1) (.inl rfl) (by intro k hk; cases hk; rfl)
    case c3 => exact ask_exec (guard_none rfl) (.pointer (some ⟨R, 0, none⟩)) rfl rfl (by intro k hk; cases hk; rfl) (fun W hW => by kernel_rfl)
    case c4 => exact ask_field (guard_none rfl) _ (.tmp 11) 0 (.pointer (some ⟨R, 0, none⟩)) (.pointer (some ⟨R, 0, none⟩)) rfl rfl (by intro k hk; cases hk; rfl) (fun W => by kernel_rfl)
    case c5 => exact ask_load (guard_none rfl) _ (.tmp 12) (.pointer (some ⟨R, 0, none⟩)) (.slice a l c) rfl rfl (by intro k hk; cases hk; rfl) (fun W hW => HLd.out W hW)
    case c6 => exact ask_exec (guard_none rfl) (.int .i64 (l : Int)) rfl rfl (by intro k hk; cases hk; rfl) (fun W hW => by kernel_rfl)
    case c7 => exact ask_bin (guard_none rfl) .neq _ _ (.tmp 9) (.tmp 14) (.int .i64 (l : Int)) (.int .i64 (l : Int)) (.bool false) rfl rfl rfl (by intro k hk; cases hk; rfl) (fun W => neq_int_self _ _ l W)
  intro af w1 hW hd' hs' hf'
  have t0 : af.tmps.getD 0 undef = .pointer (some ⟨P, 0, none⟩) := hf' 0 rfl
  have t1 : af.tmps.getD 1 undef = .pointer (some ⟨R, 0, none⟩) := hf' 1 rfl
  have t2 : af.tmps.getD 2 undef = undef := hf' 2 rfl
  have t3 : af.tmps.getD 3 undef = undef := hf' 3 rfl
  have t4 : af.tmps.getD 4 undef = .bool false := hf' 4 rfl
  have t5 : af.tmps.getD 5 undef = undef := hf' 5 rfl
  have t6 : af.tmps.getD 6 undef = undef := hf' 6 rfl
  have t7 : af.tmps.getD 7 undef = undef := hf' 7 rfl
  have t15 : af.tmps.getD 15 undef = .bool false := hf' 15 rfl
  have t16 : af.tmps.getD 16 undef = undef := hf' 16 rfl
  have t17 : af.tmps.getD 17 undef = undef := hf' 17 rfl
  have t18 : af.tmps.getD 18 undef = undef := hf' 18 rfl
  have t19 : af.tmps.getD 19 undef = undef := hf' 19 rfl
  have t20 : af.tmps.getD 20 undef = undef := hf' 20 rfl
  have t21 : af.tmps.getD 21 undef = undef := hf' 21 rfl
  have t22 : af.tmps.getD 22 undef = undef := hf' 22 rfl
  have t23 : af.tmps.getD 23 undef = undef := hf' 23 rfl
  have t24 : af.tmps.getD 24 undef = undef := hf' 24 rfl
  have t25 : af.tmps.getD 25 undef = undef := hf' 25 rfl
  have t26 : af.tmps.getD 26 undef = undef := hf' 26 rfl
  have t27 : af.tmps.getD 27 undef = undef := hf' 27 rfl
  have t28 : af.tmps.getD 28 undef = undef := hf' 28 rfl
  have t29 : af.tmps.getD 29 undef = undef := hf' 29 rfl
  have t30 : af.tmps.getD 30 undef = undef := hf' 30 rfl
  have t31 : af.tmps.getD 31 undef = undef := hf' 31 rfl
  have t32 : af.tmps.getD 32 undef = undef := hf' 32 rfl
  have t33 : af.tmps.getD 33 undef = undef := hf' 33 rfl
  have t34 : af.tmps.getD 34 undef = undef := hf' 34 rfl
  have t35 : af.tmps.getD 35 undef = undef := hf' 35 rfl
  have t36 : af.tmps.getD 36 undef = undef := hf' 36 rfl
  have t37 : af.tmps.getD 37 undef = undef := hf' 37 rfl
  have t38 : af.tmps.getD 38 undef = undef := hf' 38 rfl
  have t39 : af.tmps.getD 39 undef = undef := hf' 39 rfl
  have t40 : af.tmps.getD 40 undef = undef := hf' 40 rfl
  have t41 : af.tmps.getD 41 undef = undef := hf' 41 rfl
  have t42 : af.tmps.getD 42 undef = undef := hf' 42 rfl
  have t43 : af.tmps.getD 43 undef = undef := hf' 43 rfl
  have t44 : af.tmps.getD 44 undef = undef := hf' 44 rfl
  have t45 : af.tmps.getD 45 undef = undef := hf' 45 rfl
  have t46 : af.tmps.getD 46 undef = undef := hf' 46 rfl
  obtain ⟨tv, hus, haf⟩ := act_open 47 af hs' hd'
  rw [← hus] at t0 t1 t2 t3 t4 t5 t6 t7 t15 t16 t17 t18 t19 t20 t21 t22 t23 t24 t25 t26 t27 t28 t29 t30 t31 t32 t33 t34 t35 t36 t37 t38 t39 t40 t41 t42 t43 t44 t45 t46
  have el : ((List.range 47).map tv).toArray = #[.pointer (some ⟨P, 0, none⟩), .pointer (some ⟨R, 0, none⟩), undef, undef, .bool false, undef, undef, undef, tv 8, tv 9, tv 10, tv 11, tv 12, tv 13, tv 14, .bool false, undef, undef, undef, undef, undef, undef, undef, undef, undef, undef, undef, undef, undef, undef, undef, undef, undef, undef, undef, undef, undef, undef, undef, undef, undef, undef, undef, undef, undef, undef, undef] := by
    show #[tv 0, tv 1, tv 2, tv 3, tv 4, tv 5, tv 6, tv 7, tv 8, tv 9, tv 10, tv 11, tv 12, tv 13, tv 14, tv 15, tv 16, tv 17, tv 18, tv 19, tv 20, tv 21, tv 22, tv 23, tv 24, tv 25, tv 26, tv 27, tv 28, tv 29, tv 30, tv 31, tv 32, tv 33, tv 34, tv 35, tv 36, tv 37, tv 38, tv 39, tv 40, tv 41, tv 42, tv 43, tv 44, tv 45, tv 46] = _
    rw [t0, t1, t2, t3, t4, t5, t6, t7, t15, t16, t17, t18, t19, t20, t21, t22, t23, t24, t25, t26, t27, t28, t29, t30, t31, t32, t33, t34, t35, t36, t37, t38, t39, t40, t41, t42, t43, t44, t45, t46]
  rw [el] at haf
  subst haf
  have HWw1 := Lib.hid hW
  clear hus el hf' hs' hd' hW hG t0 t1 t2 t3 t4 t5 t6 t7 t15 t16 t17 t18 t19 t20 t21 t22 t23 t24 t25 t26 t27 t28 t29 t30 t31 t32 t33 t34 t35 t36 t37 t38 t39 t40 t41 t42 t43 t44 t45 t46
  have HD1 := Lib.hid (HD.out.below HWw1.out)
  clear HLn HLd HR
  go_wp2_with fail
  go_loopw [5] (fun s5 wr => ∃ i : Nat, i ≤ l ∧ s5 = .int .i64 (i : Int) ∧ Below w.heap.size w wr) (fun s5 _ => l - (intOf s5).toNat)
  case atStart => exact ⟨0, Nat.zero_le _, rfl, HWw1.out⟩
  case round =>
    obtain ⟨i, hi, rfl, hb⟩ := hrel
    have HB := Lib.hid hb
    have HDr := Lib.hid (HD.out.below hb)
    have i0 : (0 : Int) ≤ (i : Int) := Int.natCast_nonneg _
    have cR : wr.cell? ⟨R, 0, none⟩ = some (.slice a l c) := by rw [HDr.out.blk.cell]; rfl
    clear hb HD1 HWw1
    by_cases hlt : i < l
    · have i1 : (i : Int) < (l : Int) := by omega
      obtain ⟨x, hx⟩ : ∃ x, xs[i]? = some x := ⟨xs[i]'(by have := HL.out; omega), List.getElem?_eq_getElem _⟩
      have hLx : n.L[i]? = some x.m := by rw [← HDr.out.ms, List.getElem?_map, hx]; rfl
      have hA := hp.at_ (i : Int) HDr.out.is_ (by omega) (by omega)
      have e1 : n.at_ (i : Int) = (x.m, 0) := by
        obtain ⟨h1, h2⟩ := List.getElem?_eq_some_iff.1 hLx
        unfold Nt.at_
        rw [dif_pos ⟨by omega, by simpa using h1⟩]
        simp [h2]
      rw [e1] at hA
      have HA := Lib.hid hA
      have HX := Lib.hid hx
      clear hA e1 hLx hx
      go_wp2_with fail
      refine HA.out.mono ?_
      rintro e w2 ⟨⟨ve, vm, vg, us, rfl, hf⟩, hb⟩
      have HF := Lib.hid hf
      have HB2 := Lib.hid hb
      clear hf hb HA cR
      go_upto_region 7 with (refine wpList_store_all rfl 36 (.tmp 6) (.tmp 29) rfl w2.heap.size (mgC x.m ve vm vg) rfl rfl 36 zeroM (Blk.new w2 _ _) (mgM_info _ _ _ _) rfl (mgC_one HF.out.has) ?_; intro w3 hb ho; (have HB6 := Lib.hid hb); (have HW3 := Lib.hid (show Below w2.heap.size w2 w3 from ((Below.refl _ _).alloc (Nat.le_refl _) _).trans (ho.below (fun k hk e => by have e : k = w2.heap.size := e; omega) (by simp)))); clear hb ho)
      obtain ⟨G6, hG6⟩ : ∃ q, q = w2.heap.size := ⟨_, rfl⟩
      have HG6 := Lib.hid hG6
      rw [← hG6] at HB6 ⊢
      have HD3 := Lib.hid ((HDr.out.below HB2.out).below HW3.out)
      have hrow3 := HD3.out.lrow
      obtain ⟨g, hag, -, -, hgc⟩ := hrow3.load HX.out
      subst hag
      have HGc := Lib.hid hgc
      have HF3 := Lib.hid (HF.out.below HW3.out)
      have HXh := Lib.hid ((HD3.out.has x (List.mem_of_getElem? HX.out)).now)
      have HR3 := Lib.hid (show Blk w3 R 30 #[.slice (some ⟨g, 0, none⟩) l c, vW] from HD3.out.blk)
      have L6 := Lib.hid (show ∀ W, Below w3.heap.size w3 W → (Instr.loadAt 36 (.pointer (some ⟨G6, 0, none⟩))).run Try.prog W = .ok (.agg (mgC x.m ve vm vg)) W from fun W hW => Blk.loads (P := Try.prog) (HB6.out.keep hW) 36 _ Try.underlying36 rfl (mgM_info _ _ _ _))
      have LR := Lib.hid (show ∀ W, Below w3.heap.size w3 W → (Instr.loadAt 27 (.pointer (some ⟨R, 0, none⟩))).run Try.prog W = .ok (.slice (some ⟨g, 0, none⟩) l c) W from fun W hW => load_ml W ⟨R, 0, none⟩ _ (by rw [(HR3.out.keep hW).cell]; rfl))
      have LX := Lib.hid (show ∀ W, Below w3.heap.size w3 W → (Instr.loadAt 36 (.pointer (some ⟨g, i * 12, none⟩))).run Try.prog W = .ok (.agg (mgC x.m x.ve x.vm x.vg)) W from fun W hW => load_mm W _ x fun j v hj => (hW.cell (World.block_lt_of_cell? w3 _ (HGc.out j v hj))).trans (HGc.out j v hj))
      have HIX := Lib.hid (fun W => ix_mm W g l c i hlt)
      have HSame := Lib.hid (show ∀ W, Below w3.heap.size w3 W → Calls Try.prog 22 #[.agg (mgC x.m ve vm vg), .agg (mgC x.m x.ve x.vm x.vg)] W fun r w' => r = .returned (.bool true) ∧ Below W.heap.size W w' from fun W hW => (refMsgSame_any x.m x.m _ _ _ _ _ _ us x.us W (HF3.out.has.below (Nat.le_refl _) hW) (HXh.out.below (Nat.le_refl _) hW)).mono fun r w' h => ⟨by rw [h.1, decide_eq_true rfl], h.2⟩)
      have hG : ∀ W W' : World, Below w3.heap.size w3 W → Below W.heap.size W W' → Below w3.heap.size w3 W' := fun W W' hW hb => hW.trans (hb.mono hW.size)
      clear hrow3 hgc
      refine region_by [(31, .is (.int .i64 0)), (32, .is (.bool false)), (33, .is (.bool false)), (34, .is (.agg (mgC x.m ve vm vg))), (35, .is (.pointer (some ⟨R, 0, none⟩))), (36, .is (.pointer (some ⟨R, 0, none⟩))), (37, .is (.pointer (some ⟨R, 0, none⟩))), (38, .is (.slice (some ⟨g, 0, none⟩) l c)), (39, .is (.int .i64 (i : Int))), (40, .is (.pointer (some ⟨g, i * 12, none⟩))), (41, .is (.agg (mgC x.m x.ve x.vm x.vg))), (42, .is (.bool true)), (43, .is (.bool false)), (44, .is (.bool false))] [0, 1, 2, 3, 5, 6, 8, 9, 10, 11, 12, 13, 14, 15, 44] (fun W => Below w3.heap.size w3 W) (by kernel_rfl) (by kernel_rfl) (by kernel_rfl) (by kernel_rfl) (by kernel_rfl) ((Below.refl _ _).drew) ?_ ?_
      · refine ⟨?c0, ?c1, ?c2, ?c3, ?c4, ?c5, ?c6, ?c7, ?c8, ?c9, ?c10, ?c11, ?c12, ?c13, trivial⟩
        case c0 => exact ask_copy (guard_none rfl) (.tmp 7) (.inl rfl) (by intro k hk; cases hk; rfl)
        case c1 => exact ask_bin (guard_none rfl) .neq _ _ (.tmp 31) (.const (.int .i64 0)) (.int .i64 0) (.int .i64 0) (.bool false) rfl rfl rfl (by intro k hk; cases hk; rfl) (fun W => by kernel_rfl)
        case c2 => exact ask_copy (guard_none rfl) (.tmp 32) (.inl rfl) (by intro k hk; cases hk; rfl)
        case c3 => exact ask_load (guard_some rfl rfl rfl) _ (.tmp 6) (.pointer (some ⟨G6, 0, none⟩)) (.agg (mgC x.m ve vm vg)) rfl rfl (by intro k hk; cases hk; rfl) (fun W hW => L6.out W hW)
        case c4 => exact ask_copy (guard_some rfl rfl rfl) (.tmp 1) (.inl rfl) (by intro k hk; cases hk; rfl)
        case c5 => exact ask_exec (guard_some rfl rfl rfl) (.pointer (some ⟨R, 0, none⟩)) rfl rfl (by intro k hk; cases hk; rfl) (fun W hW => by kernel_rfl)
        case c6 => exact ask_field (guard_some rfl rfl rfl) _ (.tmp 36) 0 (.pointer (some ⟨R, 0, none⟩)) (.pointer (some ⟨R, 0, none⟩)) rfl rfl (by intro k hk; cases hk; rfl) (fun W => by kernel_rfl)
        case c7 => exact ask_load (guard_some rfl rfl rfl) _ (.tmp 37) (.pointer (some ⟨R, 0, none⟩)) (.slice (some ⟨g, 0, none⟩) l c) rfl rfl (by intro k hk; cases hk; rfl) (fun W hW => LR.out W hW)
        case c8 => exact ask_copy (guard_some rfl rfl rfl) (.tmp 5) (.inl rfl) (by intro k hk; cases hk; rfl)
        case c9 => exact ask_indexM (guard_some rfl rfl rfl) _ (.tmp 38) (.tmp 39) _ _ (.pointer (some ⟨g, i * 12, none⟩)) rfl rfl rfl (by intro k hk; cases hk; rfl) HIX.out
        case c10 => exact ask_load (guard_some rfl rfl rfl) _ (.tmp 40) (.pointer (some ⟨g, i * 12, none⟩)) (.agg (mgC x.m x.ve x.vm x.vg)) rfl rfl (by intro k hk; cases hk; rfl) (fun W hW => LX.out W hW)
        case c11 => exact ask_call hG (guard_some rfl rfl rfl) _ _ _ #[(.agg (mgC x.m ve vm vg)), (.agg (mgC x.m x.ve x.vm x.vg))] (.is (.bool true)) rfl (by kernel_rfl) rfl rfl (by intro k hk; cases hk; rfl) (fun W hW => (HSame.out W hW).mono fun e w' h => ⟨_, h.1, rfl, h.2⟩)
        case c12 => exact ask_exec (guard_some rfl rfl rfl) (.bool false) rfl rfl (by intro k hk; cases hk; rfl) (fun W hW => by kernel_rfl)
        case c13 => exact ask_pick (guard_none rfl) (.tmp 33) (.const (.bool true)) (.tmp 43) false rfl rfl (by intro k hk; cases hk; rfl)
      intro ag w4 hW hd' hs' hf'
      have t0 : ag.tmps.getD 0 undef = .pointer (some ⟨P, 0, none⟩) := hf' 0 rfl
      have t1 : ag.tmps.getD 1 undef = .pointer (some ⟨R, 0, none⟩) := hf' 1 rfl
      have t2 : ag.tmps.getD 2 undef = undef := hf' 2 rfl
      have t3 : ag.tmps.getD 3 undef = undef := hf' 3 rfl
      have t5 : ag.tmps.getD 5 undef = .int .i64 (i : Int) := hf' 5 rfl
      have t6 : ag.tmps.getD 6 undef = .pointer (some ⟨G6, 0, none⟩) := hf' 6 rfl
      have t8 : ag.tmps.getD 8 undef = tv 8 := hf' 8 rfl
      have t9 : ag.tmps.getD 9 undef = tv 9 := hf' 9 rfl
      have t10 : ag.tmps.getD 10 undef = tv 10 := hf' 10 rfl
      have t11 : ag.tmps.getD 11 undef = tv 11 := hf' 11 rfl
      have t12 : ag.tmps.getD 12 undef = tv 12 := hf' 12 rfl
      have t13 : ag.tmps.getD 13 undef = tv 13 := hf' 13 rfl
      have t14 : ag.tmps.getD 14 undef = tv 14 := hf' 14 rfl
      have t15 : ag.tmps.getD 15 undef = .bool false := hf' 15 rfl
      have t44 : ag.tmps.getD 44 undef = .bool false := hf' 44 rfl
      obtain ⟨tz, hus, haf⟩ := act_open 47 ag hs' hd'
      rw [← hus] at t0 t1 t2 t3 t5 t6 t8 t9 t10 t11 t12 t13 t14 t15 t44
      have el : ((List.range 47).map tz).toArray = #[.pointer (some ⟨P, 0, none⟩), .pointer (some ⟨R, 0, none⟩), undef, undef, tz 4, .int .i64 (i : Int), .pointer (some ⟨G6, 0, none⟩), tz 7, tv 8, tv 9, tv 10, tv 11, tv 12, tv 13, tv 14, .bool false, tz 16, tz 17, tz 18, tz 19, tz 20, tz 21, tz 22, tz 23, tz 24, tz 25, tz 26, tz 27, tz 28, tz 29, tz 30, tz 31, tz 32, tz 33, tz 34, tz 35, tz 36, tz 37, tz 38, tz 39, tz 40, tz 41, tz 42, tz 43, .bool false, tz 45, tz 46] := by
        show #[tz 0, tz 1, tz 2, tz 3, tz 4, tz 5, tz 6, tz 7, tz 8, tz 9, tz 10, tz 11, tz 12, tz 13, tz 14, tz 15, tz 16, tz 17, tz 18, tz 19, tz 20, tz 21, tz 22, tz 23, tz 24, tz 25, tz 26, tz 27, tz 28, tz 29, tz 30, tz 31, tz 32, tz 33, tz 34, tz 35, tz 36, tz 37, tz 38, tz 39, tz 40, tz 41, tz 42, tz 43, tz 44, tz 45, tz 46] = _
        rw [t0, t1, t2, t3, t5, t6, t8, t9, t10, t11, t12, t13, t14, t15, t44]
      rw [el] at haf
      subst haf
      have HWw4 := Lib.hid hW
      clear hus el hf' hs' hd' hW hG t0 t1 t2 t3 t5 t6 t8 t9 t10 t11 t12 t13 t14 t15 t44
      have HF4 := Lib.hid (HF3.out.below HWw4.out)
      have HB64 := Lib.hid (HB6.out.keep HWw4.out)
      have HB4 := Lib.hid (((HB.out.trans (HB2.out.mono HB.out.size)).trans (HW3.out.mono (Nat.le_trans HB.out.size HB2.out.size))).trans (HWw4.out.mono (Nat.le_trans (Nat.le_trans HB.out.size HB2.out.size) HW3.out.size)))
      have HSp := Lib.hid (spoil_any HF.out w4 (fun k h1 h2 => by rw [HWw4.out.block k (Nat.lt_of_lt_of_le h2 HW3.out.size), HW3.out.block k h2]) (Nat.le_trans HW3.out.size HWw4.out.size))
      have hBr := HB.out.size
      clear HF3 HB6 HGc HXh HR3 L6 LR LX HIX HSame HF4
      go_wp2_with (refine wpList_load_by rfl 36 (.tmp 6) rfl _ _ rfl (Blk.loads (P := Try.prog) HB64.out 36 _ Try.underlying36 rfl (mgM_info _ _ _ _)) ?_)
      refine HSp.out.mono ?_
      rintro e w5 ⟨rfl, ho⟩
      have HB5 := Lib.hid (HB4.out.trans (ho.below (fun k hk e => by have e := e.1; omega) HB4.out.size))
      clear ho
      go_wp2_with fail
      go_roundw
      case rel => exact ⟨i + 1, by omega, by go_num, HB5.out⟩
      case measure => simp [intOf]; omega
    · have i1 : ¬ (i : Int) < (l : Int) := by omega
      go_wp2
      go_ret
      exact ⟨rfl, HB.out⟩
end Go.Proofs.Ytgbhfolbkgibfaa

