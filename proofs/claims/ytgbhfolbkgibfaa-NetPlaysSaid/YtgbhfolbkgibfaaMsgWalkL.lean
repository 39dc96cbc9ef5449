/- Layer 18: the walk through a message's fields, by any hand. -/
import Derived.Test.YtgbhfolbkgibfaaLAS
namespace Go.Proofs.Ytgbhfolbkgibfaa
set_option maxRecDepth 20000
open Go.RowKit Go.Maps BinMath CmdMath
open MsgMath (Mg Hand)

def toldMsg (F : Prop) (X : Nat → Prop) (B : Nat) (m : Mg) (y : Value) (w : World) (U : Nat → Prop) : Prop := ∃ (ve vm vg : Value) (us : List EE), y = .agg (mgC m ve vm vg) ∧ Stay w (fun k => U k ∨ X k) B (fun W => MHas W m ve vm vg us ∧ (F → MFree W m ve vm vg us))

theorem conv_kind (k : Int) (c : Nat) (hc : c = (k % 256).toNat) (W : World) : (convert 3 5 (.int .i64 k)).run Try.prog W = .ok (.int .u8 (c : Int)) W := by
  have hp : Try.prog.intKind 5 = .u8 := by kernel_rfl
  have h := run_convert_int (P := Try.prog) W 3 5 .i64 k (by kernel_rfl) (by rw [hp]; exact Try.underlying5)
  rw [hp] at h
  have e : IntKind.u8.wrap k = (c : Int) := by rw [IntKind.wrap_u8]; omega
  rw [h, e]

/-- Ahead of the message that is told: M holds the one that came, R the result. -/
structure WS (z : List UInt8 → Nat) (I : World → (Nat → Prop) → List UInt8 → Prop) (U X : Nat → Prop) (G B : Nat) (l : List UInt8) (w : World) (M R : Nat) (mc : Array Value) (src : World → Prop) (N : Nat) (U' : Nat → Prop) (l' : List UInt8) (wr : World) : Prop where
  hand : I wr U' l'
  bm : Blk wr M 36 mc
  br : Blk wr R 36 zeroM
  nm : ¬ U' M
  nr : ¬ U' R
  hM : w.heap.size ≤ M
  hR : w.heap.size ≤ R
  hG : G ≤ w.heap.size ∧ B ≤ w.heap.size
  only : OnlyS U w wr
  sub : ∀ k, U' k → U k ∨ w.heap.size ≤ k
  src : Stay wr (fun k => U' k ∨ k = R ∨ X k) B src
  hX : ∀ k, X k → k < w.heap.size
  ll : z l' ≤ z l + N

/-- In the midst of the walk: T holds what is told. -/
structure WAt (z : List UInt8 → Nat) (I : World → (Nat → Prop) → List UInt8 → Prop) (U X : Nat → Prop) (G B : Nat) (l : List UInt8) (w : World) (M R T : Nat) (mc cs : Array Value) (src p : World → Prop) (N : Nat) (U' : Nat → Prop) (l' : List UInt8) (wr : World) : Prop where
  hand : I wr U' l'
  bm : Blk wr M 36 mc
  br : Blk wr R 36 zeroM
  bt : Blk wr T 36 cs
  nm : ¬ U' M
  nr : ¬ U' R
  nt : ¬ U' T
  hM : w.heap.size ≤ M ∧ ¬ M = T
  hR : w.heap.size ≤ R ∧ ¬ R = T ∧ G ≤ R
  hT : w.heap.size ≤ T ∧ G ≤ T ∧ B ≤ w.heap.size
  only : OnlyS U w wr
  sub : ∀ k, U' k → U k ∨ w.heap.size ≤ k
  src : Stay wr (fun k => U' k ∨ k = T ∨ k = R ∨ X k) B src
  hX : ∀ k, X k → k < w.heap.size
  res : Stay wr (fun k => U' k ∨ k = T ∨ k = R ∨ X k) B p
  ll : z l' ≤ z l + N

section
variable {H : Hand} {t : TypeId} {v r : Value} {fo fn ft fe : FuncId} {G B : Nat} {z : List UInt8 → Nat} {I : World → (Nat → Prop) → List UInt8 → Prop} {F : Prop}

theorem walkStart (hp : HandP H t v r fo fn ft fe G B z I F) {w w0 : World} {U X : Nat → Prop} {l : List UInt8} {mc : Array Value} {src : World → Prop} (hI : I w U l) (hX : ∀ k, X k → k < w.heap.size) (hm : Stay w (fun k => U k ∨ X k) B src) (hw0 : w0 = (w.alloc (.cells mc 36)).alloc (.cells zeroM 36)) :
    WS z I U X G B l w w.heap.size (w.heap.size + 1) mc src 0 U l w0 := by
  subst hw0
  have hlt := hp.lt hI
  have ho : OnlyS (fun _ => False) w ((w.alloc (.cells mc 36)).alloc (.cells zeroM 36)) := ((OnlyS.refl _ _).alloc _).alloc _
  have hb := Blk.new (w.alloc (.cells mc 36)) 36 zeroM
  rw [World.size_alloc] at hb
  exact ⟨hp.keep hI ho (fun _ _ e => e.elim), (Blk.new w _ _).alloc _, hb, fun e => by have := hlt.1 _ e; omega, fun e => by have := hlt.1 _ e; omega, Nat.le_refl _, Nat.le_succ _, hlt.2, ho.mono (fun _ _ e => e.elim), fun _ e => .inl e, hm.step ho (fun _ _ e => e.elim) (fun k hk e => e.elim .inl fun e => e.elim (fun e => by omega) .inr), hX, Nat.le_refl _⟩

theorem WS.call {U U' U2 X : Nat → Prop} {l l' l2 : List UInt8} {w wr w2 : World} {M R N D : Nat} {mc : Array Value} {src : World → Prop} (h : WS z I U X G B l w M R mc src N U' l' wr)
    (ho : OnlyS U' wr w2) (hI : I w2 U2 l2) (hU : ∀ k, U2 k → U' k ∨ wr.heap.size ≤ k) (hl : z l2 ≤ z l' + D) : WS z I U X G B l w M R mc src (N + D) U2 l2 w2 := by
  have hn : ∀ k, k < wr.heap.size → ¬ U' k → ¬ U2 k := fun k hk hn e => by
    rcases hU k e with e | e
    · exact hn e
    · omega
  refine ⟨hI, h.bm.onlyS ho h.nm, h.br.onlyS ho h.nr, hn _ h.bm.lt h.nm, hn _ h.br.lt h.nr, h.hM, h.hR, h.hG, h.only.then ho (fun k hk hu => (h.sub k hu).resolve_right (by omega)), fun k hk => ?_, h.src.step ho (fun _ _ e => .inl e) (fun k hk e => e.elim (fun e => .inl ((hU k e).resolve_right (by omega))) .inr), h.hX, ?_⟩
  · rcases hU k hk with hk | hk
    · exact h.sub k hk
    · exact .inr (Nat.le_trans h.only.size hk)
  · have := h.ll
    omega

theorem WS.told (hp : HandP H t v r fo fn ft fe G B z I F) {U U' X : Nat → Prop} {l l' : List UInt8} {w wr w3 : World} {M R N : Nat} {mc cs : Array Value} {src : World → Prop} {o : Obj} (h : WS z I U X G B l w M R mc src N U' l' wr)
    (hb : Blk w3 wr.heap.size 36 cs) (ho : OnlyS (fun k => k = wr.heap.size) (wr.alloc o) w3) : WAt z I U X G B l w M R wr.heap.size mc cs src (fun _ => True) N U' l' w3 := by
  have ho2 : OnlyS (fun _ => False) wr w3 := ((OnlyS.refl (fun _ => False) wr).alloc o).then ho (fun k hk e => by have e : k = wr.heap.size := e; omega)
  have h1 := h.bm.lt
  have h2 := h.br.lt
  have h3 := h.only.size
  have h4 := h.hG
  exact ⟨hp.keep h.hand ho2 (fun _ _ e => e.elim), h.bm.onlyS ho2 (fun e => e), h.br.onlyS ho2 (fun e => e), hb, h.nm, h.nr, fun e => by have := (hp.lt h.hand).1 _ e; omega, ⟨h.hM, by omega⟩, ⟨h.hR, by omega, by have := h.hR; omega⟩, ⟨h3, by omega, h4.2⟩, h.only.then ho2 (fun _ _ e => e.elim), h.sub,
    h.src.step ho2 (fun _ _ e => e.elim) (fun k hk e => e.elim .inl fun e => e.elim (fun e => by omega) .inr), h.hX, Stay.all fun _ => trivial, h.ll⟩

theorem WAt.call {U U' U2 X : Nat → Prop} {l l' l2 : List UInt8} {w wr w2 : World} {M R T N D : Nat} {mc cs : Array Value} {src p : World → Prop} (h : WAt z I U X G B l w M R T mc cs src p N U' l' wr)
    (ho : OnlyS U' wr w2) (hI : I w2 U2 l2) (hU : ∀ k, U2 k → U' k ∨ wr.heap.size ≤ k) (hl : z l2 ≤ z l' + D) : WAt z I U X G B l w M R T mc cs src p (N + D) U2 l2 w2 := by
  have hn : ∀ k, k < wr.heap.size → ¬ U' k → ¬ U2 k := fun k hk hn e => by
    rcases hU k e with e | e
    · exact hn e
    · omega
  have hst : ∀ k, k < wr.heap.size → (U2 k ∨ k = T ∨ k = R ∨ X k) → U' k ∨ k = T ∨ k = R ∨ X k := fun k hk e => e.elim (fun e => .inl ((hU k e).resolve_right (by omega))) .inr
  refine ⟨hI, h.bm.onlyS ho h.nm, h.br.onlyS ho h.nr, h.bt.onlyS ho h.nt, hn _ h.bm.lt h.nm, hn _ h.br.lt h.nr, hn _ h.bt.lt h.nt, h.hM, h.hR, h.hT, h.only.then ho (fun k hk hu => (h.sub k hu).resolve_right (by omega)), fun k hk => ?_, h.src.step ho (fun _ _ e => .inl e) hst, h.hX, h.res.step ho (fun _ _ e => .inl e) hst, ?_⟩
  · rcases hU k hk with hk | hk
    · exact h.sub k hk
    · exact .inr (Nat.le_trans h.only.size hk)
  · have := h.ll
    omega

theorem WAt.set (hp : HandP H t v r fo fn ft fe G B z I F) {U U' X : Nat → Prop} {l l' : List UInt8} {w wr w3 : World} {M R T N : Nat} {mc cs cs' : Array Value} {src p : World → Prop} (h : WAt z I U X G B l w M R T mc cs src p N U' l' wr)
    (hb : Blk w3 T 36 cs') (ho : OnlyS (fun k => k = T) wr w3) : WAt z I U X G B l w M R T mc cs' src p N U' l' w3 := by
  have hT := h.hT
  exact ⟨hp.keep h.hand ho (fun k _ e => by have e : k = T := e; subst e; exact ⟨hT.2.1, h.nt⟩), h.bm.onlyS ho h.hM.2, h.br.onlyS ho h.hR.2.1, hb, h.nm, h.nr, h.nt, h.hM, h.hR, h.hT, h.only.then ho (fun k hk e => by have e : k = T := e; omega), h.sub,
    h.src.step ho (fun _ _ e => .inr (.inl e)) (fun _ _ e => e), h.hX, h.res.step ho (fun _ _ e => .inr (.inl e)) (fun _ _ e => e), h.ll⟩

theorem WAt.add {U U' X : Nat → Prop} {l l' : List UInt8} {w wr : World} {M R T N : Nat} {mc cs : Array Value} {src p q : World → Prop} (h : WAt z I U X G B l w M R T mc cs src p N U' l' wr) (hq : Stay wr (fun k => U' k ∨ k = T ∨ k = R ∨ X k) B q) : WAt z I U X G B l w M R T mc cs src (fun W => p W ∧ q W) N U' l' wr :=
  ⟨h.hand, h.bm, h.br, h.bt, h.nm, h.nr, h.nt, h.hM, h.hR, h.hT, h.only, h.sub, h.src, h.hX, fun W hW => ⟨h.res W hW, hq W hW⟩, h.ll⟩

theorem WAt.xlt {U U' X : Nat → Prop} {l l' : List UInt8} {w wr : World} {M R T N : Nat} {mc cs : Array Value} {src p : World → Prop} (h : WAt z I U X G B l w M R T mc cs src p N U' l' wr) (k : Nat) (hk : k = T ∨ k = R ∨ X k) : k < wr.heap.size :=
  hk.elim (fun e => e ▸ h.bt.lt) fun e => e.elim (fun e => e ▸ h.br.lt) fun e => Nat.lt_of_lt_of_le (h.hX k e) h.only.size

theorem walkEntries (hp : HandP H t v r fo fn ft fe G B z I F) {U U' X : Nat → Prop} {l l' : List UInt8} {w wr : World} {M R T N : Nat} {mc cs : Array Value} {p : World → Prop} {m : Mg} {a : Option Addr} {na ca : Nat} {vm vg : Value} {us : List EE}
    (h : WAt z I U X G B l w M R T mc cs (fun W => MHas W m (.slice a na ca) vm vg us) p N U' l' wr) (he : us.map EE.e = m.e) (hu : us.length ≤ 140737488351232) (hl : z l' ≤ 900000000000) :
    Calls Try.prog 52 #[.iface t v, .slice a na ca] wr (HEnd 200000 z I U' l' wr (MsgMath.entriesH H m.e l') (isEnts F (fun k => k = T ∨ k = R ∨ X k) B)) := by
  rw [← he]
  exact entries_any hp (fun k => k = T ∨ k = R ∨ X k) (.slice a na ca) us h.hand h.xlt (h.src.imp fun W hW => ⟨hW.els, hW.all⟩) hu hl

theorem WAt.lost {U U' X : Nat → Prop} {l l' : List UInt8} {w wr w2 : World} {M R T N c : Nat} {mc cs : Array Value} {src p : World → Prop} {res : Except Nat (Mg × List UInt8)} (h : WAt z I U X G B l w M R T mc cs src p N U' l' wr)
    (hr : res = .error c) (ho : OnlyS U' wr w2) (hc : c ≠ 0) : HEnd 1000000 z I U l w res (toldMsg F X B) (.panicked (gaveUp (c : Int))) w2 :=
  HEnd.bad hr (h.only.then ho (fun k hk hu => (h.sub k hu).resolve_right (by omega))) hc

/-- The end: what was told is laid into the result. -/
theorem WAt.fin (hp : HandP H t v r fo fn ft fe G B z I F) {U U' X : Nat → Prop} {l l' : List UInt8} {w wr w3 : World} {M R T N : Nat} {mc : Array Value} {src p : World → Prop} {m' : Mg} {ve vm vg : Value} {us : List EE} {res : Except Nat (Mg × List UInt8)} (h : WAt z I U X G B l w M R T mc (mgC m' ve vm vg) src p N U' l' wr)
    (hb : Blk w3 R 36 (mgC m' ve vm vg)) (ho : OnlyS (fun k => k = R) wr w3) (hr : res = .ok (m', l')) (hN : N ≤ 1000000) (hhas : ∀ W, p W → MHas W m' ve vm vg us ∧ (F → MFree W m' ve vm vg us)) : HEnd 1000000 z I U l w res (toldMsg F X B) (.returned (.agg (mgC m' ve vm vg))) w3 := by
  have hR := h.hR
  refine HEnd.good hr (h.only.then ho (fun k hk e => by have e : k = R := e; omega)) ⟨ve, vm, vg, us, rfl, ?_⟩ (hp.keep h.hand ho (fun k _ e => by have e : k = R := e; subst e; exact ⟨hR.2.2, h.nr⟩)) h.sub (by have := h.ll; omega)
  exact ((h.res.step ho (fun _ _ e => .inr (.inr (.inl e))) (fun _ _ e => e.elim .inl fun e => .inr (.inr (.inr e)))).imp hhas)

set_option maxHeartbeats 8000000 in
set_option maxRecDepth 100000 in
theorem walk_1 (hp : HandP H t v r fo fn ft fe G B z I F) {w : World} {U : Nat → Prop} {l q0 : List UInt8} (X : Nat → Prop) (m : Mg) (ve vm vg : Value) (us : List EE) (hI : I w U l) (hX : ∀ k, X k → k < w.heap.size) (hm : Stay w (fun k => U k ∨ X k) B (fun W => MHas W m ve vm vg us)) (hl : z l ≤ 100000000) (hr0 : H.octet (m.k % 256).toNat l = .ok (1, q0)) :
    Calls Try.prog 37 #[.iface t v, .agg (mgC m ve vm vg)] w (HEnd 1000000 z I U l w (MsgMath.walkH H m l) (toldMsg F X B)) := by
  obtain ⟨a, ca, rfl⟩ := hm.now.els.form
  obtain ⟨b, cb, rfl⟩ := hm.now.ms.shape
  obtain ⟨d, cd, rfl⟩ := hm.now.gs.shape
  obtain ⟨na, hna⟩ : ∃ n, n = us.length := ⟨_, rfl⟩
  obtain ⟨nb, hnb⟩ : ∃ n, n = m.m.length := ⟨_, rfl⟩
  obtain ⟨nd, hnd⟩ : ∃ n, n = m.g.length := ⟨_, rfl⟩
  rw [← hna, ← hnb, ← hnd] at hm ⊢
  have HOk := Lib.hid hm.now.ok
  have HEn := Lib.hid hm.now.ents
  have HUl := Lib.hid hm.now.ul
  have HMl := Lib.hid hm.now.ml
  have HGl := Lib.hid hm.now.gl
  have HL := Lib.hid hl
  have mo := hp.mo
  have eo := hp.eo
  have mn := hp.mn
  have en := hp.en
  have mt := hp.mt
  have et := hp.et
  obtain ⟨w0, hw0⟩ : ∃ w0, w0 = (w.alloc (.cells (mgC m (.slice a na ca) (.slice b nb cb) (.slice d nd cd)) 36)).alloc (.cells zeroM 36) := ⟨_, rfl⟩
  have HS0 := Lib.hid (walkStart hp hI hX hm hw0)
  have HW0 := Lib.hid hw0
  obtain ⟨c0, hc0⟩ : ∃ c0, c0 = (m.k % 256).toNat := ⟨_, rfl⟩
  have hcv := conv_kind m.k c0 hc0
  have hc256 : c0 < 256 := by omega
  rw [← hc0] at hr0
  have hcb : ∀ W, (convert 5 3 (.int .u8 1)).run Try.prog W = .ok (.int .i64 1) W := fun W => conv_byte 1 (by decide) W
  have HR0 := Lib.hid hr0
  have HP0 := Lib.hid (show MsgMath.walkH H m l = MsgMath.bindP (MsgMath.withinH H m.f 1 7) (fun f => MsgMath.bindP (MsgMath.withinH H m.o 1 7) fun o => MsgMath.bindP (MsgMath.withinH H m.t 1 MsgMath.MT) fun t => MsgMath.bodyH H 1 f o t m) q0 by rw [MsgMath.walkH, ← hc0, MsgMath.bindP_ok hr0, if_pos (by decide)])
  clear hna hnb hnd hI hX hm hl hw0 hr0 hc0
  simp only [mgC]
  go_enter Try.func37, Try.ntmps37
  go_wp2_with fail
  have e0 : w0 = (w.alloc (.cells #[.int .i64 m.k, .int .u64 (m.f : Int), .int .u64 (m.o : Int), .int .u64 (m.t : Int), .int .u64 (m.i : Int), .int .u64 (m.l : Int), .int .u64 (m.c : Int), .int .u64 (m.s : Int), .bool m.y, .slice a na ca, .slice b nb cb, .slice d nd cd] 36)).alloc (.cells #[.int .i64 0, .int .u64 0, .int .u64 0, .int .u64 0, .int .u64 0, .int .u64 0, .int .u64 0, .int .u64 0, .bool false, .slice none 0 0, .slice none 0 0, .slice none 0 0] 36) := HW0.out
  rw [← e0]
  clear e0 HW0
  refine (hp.octet _ HS0.out.hand hc256 (by have := HS0.out.ll; have := HL.out; omega)).mono ?_
  intro e w1 h
  obtain ⟨y, U1, rfl, ho, ⟨rfl, -⟩, hI1, hU1, hq⟩ := h.ok HR0.out
  have HS1 := Lib.hid (HS0.out.call ho hI1 hU1 hq)
  clear h ho hI1 hU1 hq HS0 HR0 hcv hc256
  go_wp2_with (refine wpList_store_all rfl 36 (.tmp 5) (.tmp 12) rfl w1.heap.size #[.int .i64 1, .int .u64 0, .int .u64 0, .int .u64 0, .int .u64 0, .int .u64 0, .int .u64 0, .int .u64 0, .bool false, .slice none 0 0, .slice none 0 0, .slice none 0 0] rfl rfl 36 zeroM (Blk.new w1 36 zeroM) (by kernel_rfl) rfl (by simp [Value.oneCell']) ?_; intro w2 hb ho; (have HA0 := Lib.hid (HS1.out.told hp hb ho)); (have k0 : w2.cell? ⟨w1.heap.size, 0, none⟩ = some (.int .i64 1) := by rw [hb.cell]; rfl); clear hb ho)
  refine (mask_yes 3 _).mono ?_
  rintro e w3 ⟨rfl, rfl⟩
  obtain ⟨T, hT⟩ : ∃ T, T = w1.heap.size := ⟨_, rfl⟩
  obtain ⟨R, hR⟩ : ∃ R, R = w.heap.size + 1 := ⟨_, rfl⟩
  obtain ⟨M, hM⟩ : ∃ M, M = w.heap.size := ⟨_, rfl⟩
  rw [← hT, ← hR, ← hM] at HA0
  rw [← hT] at k0
  rw [← hT, ← hR, ← hM]
  clear hT hR hM HS1 hcb mo eo
  have kn : w3.cell? ⟨M, 1, none⟩ = some (.int .u64 (m.f : Int)) := by rw [HA0.out.bm.cell]; rfl
  cases hr1 : MsgMath.withinH H m.f 1 7 q0 with
  | error c =>
    have HE := Lib.hid (HP0.out.trans (MsgMath.bindP_err hr1))
    have HR := Lib.hid hr1
    clear hr1
    go_wp2_with fail
    refine (within_any hp m.f 1 7 HA0.out.hand HOk.out.f (by have := HA0.out.ll; have := HL.out; omega)).mono ?_
    intro e w4 h
    obtain ⟨ho, hc, rfl⟩ := h.err HR.out
    exact ⟨rfl, HA0.out.lost HE.out ho hc⟩
  | ok pr =>
  obtain ⟨x1, q1⟩ := pr
  have hp1 := HP0.out.trans (MsgMath.bindP_ok hr1)
  try dsimp only at hp1
  have HP1 := Lib.hid hp1
  have HR1 := Lib.hid hr1
  clear hp1 hr1 HP0
  go_wp2_with fail
  refine (within_any hp m.f 1 7 HA0.out.hand HOk.out.f (by have := HA0.out.ll; have := HL.out; omega)).mono ?_
  intro e wc1 h
  obtain ⟨y1, U11, rfl, ho1, hv1, hI1, hU1, hq1⟩ := h.ok HR1.out
  have HC1 := Lib.hid (HA0.out.call ho1 hI1 hU1 hq1)
  obtain ⟨rfl, hx1, hlo1, hhi1⟩ := hv1
  have HX1 := Lib.hid (show x1 < 18446744073709551616 from hx1)
  clear hx1 hlo1 hhi1
  clear h ho1 hI1 hU1 hq1 HR1 kn k0 HA0
  go_wp2_with (refine wpList_store_fld rfl 31 (.tmp 26) (.tmp 25) rfl T 1 (.int .u64 (x1 : Int)) rfl rfl 36 #[.int .i64 1, .int .u64 0, .int .u64 0, .int .u64 0, .int .u64 0, .int .u64 0, .int .u64 0, .int .u64 0, .bool false, .slice none 0 0, .slice none 0 0, .slice none 0 0] #[.int .i64 1, .int .u64 (x1 : Int), .int .u64 0, .int .u64 0, .int .u64 0, .int .u64 0, .int .u64 0, .int .u64 0, .bool false, .slice none 0 0, .slice none 0 0, .slice none 0 0] HC1.out.bt (by simp) rfl (by kernel_rfl) rfl ?_; intro ws1 hb ho; (have HA1 := Lib.hid (HC1.out.set hp hb ho)); (have kn : ws1.cell? ⟨M, 2, none⟩ = some (.int .u64 (m.o : Int)) := by rw [HA1.out.bm.cell]; rfl); (have k0 : ws1.cell? ⟨T, 0, none⟩ = some (.int .i64 1) := by rw [hb.cell]; rfl); clear hb ho)
  cases hr2 : MsgMath.withinH H m.o 1 7 q1 with
  | error c =>
    have HE := Lib.hid (HP1.out.trans (MsgMath.bindP_err hr2))
    have HR := Lib.hid hr2
    clear hr2
    go_wp2_with fail
    refine (within_any hp m.o 1 7 HA1.out.hand HOk.out.o (by have := HA1.out.ll; have := HL.out; omega)).mono ?_
    intro e w4 h
    obtain ⟨ho, hc, rfl⟩ := h.err HR.out
    exact ⟨rfl, HA1.out.lost HE.out ho hc⟩
  | ok pr =>
  obtain ⟨x2, q2⟩ := pr
  have hp2 := HP1.out.trans (MsgMath.bindP_ok hr2)
  try dsimp only at hp2
  have HP2 := Lib.hid hp2
  have HR2 := Lib.hid hr2
  clear hp2 hr2 HP1
  go_wp2_with fail
  refine (within_any hp m.o 1 7 HA1.out.hand HOk.out.o (by have := HA1.out.ll; have := HL.out; omega)).mono ?_
  intro e wc2 h
  obtain ⟨y2, U12, rfl, ho2, hv2, hI2, hU2, hq2⟩ := h.ok HR2.out
  have HC2 := Lib.hid (HA1.out.call ho2 hI2 hU2 hq2)
  obtain ⟨rfl, hx2, hlo2, hhi2⟩ := hv2
  have HX2 := Lib.hid (show x2 < 18446744073709551616 from hx2)
  clear hx2 hlo2 hhi2
  clear h ho2 hI2 hU2 hq2 HR2 kn k0 HA1
  go_wp2_with (refine wpList_store_fld rfl 31 (.tmp 31) (.tmp 30) rfl T 2 (.int .u64 (x2 : Int)) rfl rfl 36 #[.int .i64 1, .int .u64 (x1 : Int), .int .u64 0, .int .u64 0, .int .u64 0, .int .u64 0, .int .u64 0, .int .u64 0, .bool false, .slice none 0 0, .slice none 0 0, .slice none 0 0] #[.int .i64 1, .int .u64 (x1 : Int), .int .u64 (x2 : Int), .int .u64 0, .int .u64 0, .int .u64 0, .int .u64 0, .int .u64 0, .bool false, .slice none 0 0, .slice none 0 0, .slice none 0 0] HC2.out.bt (by simp) rfl (by kernel_rfl) rfl ?_; intro ws2 hb ho; (have HA2 := Lib.hid (HC2.out.set hp hb ho)); (have kn : ws2.cell? ⟨M, 3, none⟩ = some (.int .u64 (m.t : Int)) := by rw [HA2.out.bm.cell]; rfl); (have k0 : ws2.cell? ⟨T, 0, none⟩ = some (.int .i64 1) := by rw [hb.cell]; rfl); clear hb ho)
  cases hr3 : MsgMath.withinH H m.t 1 MsgMath.MT q2 with
  | error c =>
    have HE := Lib.hid (HP2.out.trans (MsgMath.bindP_err hr3))
    have HR := Lib.hid hr3
    clear hr3
    go_wp2_with fail
    refine (within_any hp m.t 1 MsgMath.MT HA2.out.hand HOk.out.t (by have := HA2.out.ll; have := HL.out; omega)).mono ?_
    intro e w4 h
    obtain ⟨ho, hc, rfl⟩ := h.err HR.out
    exact ⟨rfl, HA2.out.lost HE.out ho hc⟩
  | ok pr =>
  obtain ⟨x3, q3⟩ := pr
  have hp3 := HP2.out.trans (MsgMath.bindP_ok hr3)
  try dsimp only at hp3
  rw [MsgMath.bodyH, if_pos rfl] at hp3
  have HP3 := Lib.hid hp3
  have HR3 := Lib.hid hr3
  clear hp3 hr3 HP2
  go_wp2_with fail
  refine (within_any hp m.t 1 MsgMath.MT HA2.out.hand HOk.out.t (by have := HA2.out.ll; have := HL.out; omega)).mono ?_
  intro e wc3 h
  obtain ⟨y3, U13, rfl, ho3, hv3, hI3, hU3, hq3⟩ := h.ok HR3.out
  have HC3 := Lib.hid (HA2.out.call ho3 hI3 hU3 hq3)
  obtain ⟨rfl, hx3, hlo3, hhi3⟩ := hv3
  have HX3 := Lib.hid (show x3 < 18446744073709551616 from hx3)
  clear hx3 hlo3 hhi3
  clear h ho3 hI3 hU3 hq3 HR3 kn k0 HA2
  go_wp2_with (refine wpList_store_fld rfl 31 (.tmp 36) (.tmp 35) rfl T 3 (.int .u64 (x3 : Int)) rfl rfl 36 #[.int .i64 1, .int .u64 (x1 : Int), .int .u64 (x2 : Int), .int .u64 0, .int .u64 0, .int .u64 0, .int .u64 0, .int .u64 0, .bool false, .slice none 0 0, .slice none 0 0, .slice none 0 0] #[.int .i64 1, .int .u64 (x1 : Int), .int .u64 (x2 : Int), .int .u64 (x3 : Int), .int .u64 0, .int .u64 0, .int .u64 0, .int .u64 0, .bool false, .slice none 0 0, .slice none 0 0, .slice none 0 0] HC3.out.bt (by simp) rfl (by kernel_rfl) rfl ?_; intro ws3 hb ho; (have HA3 := Lib.hid (HC3.out.set hp hb ho)); (have kn : ws3.cell? ⟨M, 4, none⟩ = some (.int .u64 (m.i : Int)) := by rw [HA3.out.bm.cell]; rfl); (have k0 : ws3.cell? ⟨T, 0, none⟩ = some (.int .i64 1) := by rw [hb.cell]; rfl); clear hb ho)
  cases hr4 : MsgMath.withinH H m.i 0 MsgMath.MT q3 with
  | error c =>
    have HE := Lib.hid (HP3.out.trans (MsgMath.bindP_err hr4))
    have HR := Lib.hid hr4
    clear hr4
    go_wp2_with fail
    refine (place_any hp m.i HA3.out.hand HOk.out.i (by have := HA3.out.ll; have := HL.out; omega)).mono ?_
    intro e w4 h
    obtain ⟨ho, hc, rfl⟩ := h.err HR.out
    exact ⟨rfl, HA3.out.lost HE.out ho hc⟩
  | ok pr =>
  obtain ⟨x4, q4⟩ := pr
  have hp4 := HP3.out.trans (MsgMath.bindP_ok hr4)
  try dsimp only at hp4
  have HP4 := Lib.hid hp4
  have HR4 := Lib.hid hr4
  clear hp4 hr4 HP3
  go_wp2_with fail
  refine (place_any hp m.i HA3.out.hand HOk.out.i (by have := HA3.out.ll; have := HL.out; omega)).mono ?_
  intro e wc4 h
  obtain ⟨y4, U14, rfl, ho4, hv4, hI4, hU4, hq4⟩ := h.ok HR4.out
  have HC4 := Lib.hid (HA3.out.call ho4 hI4 hU4 hq4)
  obtain ⟨rfl, hx4, hlo4, hhi4⟩ := hv4
  have HX4 := Lib.hid (show x4 < 18446744073709551616 from hx4)
  clear hx4 hlo4 hhi4
  clear h ho4 hI4 hU4 hq4 HR4 kn k0 HA3
  go_wp2_with (refine wpList_store_fld rfl 31 (.tmp 45) (.tmp 44) rfl T 4 (.int .u64 (x4 : Int)) rfl rfl 36 #[.int .i64 1, .int .u64 (x1 : Int), .int .u64 (x2 : Int), .int .u64 (x3 : Int), .int .u64 0, .int .u64 0, .int .u64 0, .int .u64 0, .bool false, .slice none 0 0, .slice none 0 0, .slice none 0 0] #[.int .i64 1, .int .u64 (x1 : Int), .int .u64 (x2 : Int), .int .u64 (x3 : Int), .int .u64 (x4 : Int), .int .u64 0, .int .u64 0, .int .u64 0, .bool false, .slice none 0 0, .slice none 0 0, .slice none 0 0] HC4.out.bt (by simp) rfl (by kernel_rfl) rfl ?_; intro ws4 hb ho; (have HA4 := Lib.hid (HC4.out.set hp hb ho)); (have kn : ws4.cell? ⟨M, 5, none⟩ = some (.int .u64 (m.l : Int)) := by rw [HA4.out.bm.cell]; rfl); (have k0 : ws4.cell? ⟨T, 0, none⟩ = some (.int .i64 1) := by rw [hb.cell]; rfl); clear hb ho)
  cases hr5 : MsgMath.withinH H m.l 0 MsgMath.MT q4 with
  | error c =>
    have HE := Lib.hid (HP4.out.trans (MsgMath.bindP_err hr5))
    have HR := Lib.hid hr5
    clear hr5
    go_wp2_with fail
    refine (place_any hp m.l HA4.out.hand HOk.out.l (by have := HA4.out.ll; have := HL.out; omega)).mono ?_
    intro e w4 h
    obtain ⟨ho, hc, rfl⟩ := h.err HR.out
    exact ⟨rfl, HA4.out.lost HE.out ho hc⟩
  | ok pr =>
  obtain ⟨x5, q5⟩ := pr
  have hp5 := HP4.out.trans (MsgMath.bindP_ok hr5)
  try dsimp only at hp5
  have HP5 := Lib.hid hp5
  have HR5 := Lib.hid hr5
  clear hp5 hr5 HP4
  go_wp2_with fail
  refine (place_any hp m.l HA4.out.hand HOk.out.l (by have := HA4.out.ll; have := HL.out; omega)).mono ?_
  intro e wc5 h
  obtain ⟨y5, U15, rfl, ho5, hv5, hI5, hU5, hq5⟩ := h.ok HR5.out
  have HC5 := Lib.hid (HA4.out.call ho5 hI5 hU5 hq5)
  obtain ⟨rfl, hx5, hlo5, hhi5⟩ := hv5
  have HX5 := Lib.hid (show x5 < 18446744073709551616 from hx5)
  clear hx5 hlo5 hhi5
  clear h ho5 hI5 hU5 hq5 HR5 kn k0 HA4
  go_wp2_with (first
    | (refine wpList_store_fld rfl 31 (.tmp 50) (.tmp 49) rfl T 5 (.int .u64 (x5 : Int)) rfl rfl 36 #[.int .i64 1, .int .u64 (x1 : Int), .int .u64 (x2 : Int), .int .u64 (x3 : Int), .int .u64 (x4 : Int), .int .u64 0, .int .u64 0, .int .u64 0, .bool false, .slice none 0 0, .slice none 0 0, .slice none 0 0] #[.int .i64 1, .int .u64 (x1 : Int), .int .u64 (x2 : Int), .int .u64 (x3 : Int), .int .u64 (x4 : Int), .int .u64 (x5 : Int), .int .u64 0, .int .u64 0, .bool false, .slice none 0 0, .slice none 0 0, .slice none 0 0] HC5.out.bt (by simp) rfl (by kernel_rfl) rfl ?_; intro ws5 hb ho; (have HA5 := Lib.hid (HC5.out.set hp hb ho)); (have k0 : ws5.cell? ⟨T, 0, none⟩ = some (.int .i64 1) := by rw [hb.cell]; rfl); clear hb ho)
    | (refine wpList_load_by rfl 36 (.tmp 5) rfl _ (.agg #[.int .i64 1, .int .u64 (x1 : Int), .int .u64 (x2 : Int), .int .u64 (x3 : Int), .int .u64 (x4 : Int), .int .u64 (x5 : Int), .int .u64 0, .int .u64 0, .bool false, .slice none 0 0, .slice none 0 0, .slice none 0 0]) rfl (Blk.loads (P := Try.prog) HA5.out.bt 36 _ Try.underlying36 rfl (by kernel_rfl)) ?_)
    | (refine wpList_store_all rfl 36 (.tmp 4) (.tmp 129) rfl R #[.int .i64 1, .int .u64 (x1 : Int), .int .u64 (x2 : Int), .int .u64 (x3 : Int), .int .u64 (x4 : Int), .int .u64 (x5 : Int), .int .u64 0, .int .u64 0, .bool false, .slice none 0 0, .slice none 0 0, .slice none 0 0] rfl rfl 36 zeroM HA5.out.br (by kernel_rfl) rfl (by simp [Value.oneCell']) ?_; intro wz hb ho; (have HZ := Lib.hid hb); (have HO := Lib.hid ho); clear hb ho))
  exact bodyPost_ret (v := .agg #[.int .i64 1, .int .u64 (x1 : Int), .int .u64 (x2 : Int), .int .u64 (x3 : Int), .int .u64 (x4 : Int), .int .u64 (x5 : Int), .int .u64 0, .int .u64 0, .bool false, .slice none 0 0, .slice none 0 0, .slice none 0 0]) (results_cell_row rfl _ _ R 36 #[.int .i64 1, .int .u64 (x1 : Int), .int .u64 (x2 : Int), .int .u64 (x3 : Int), .int .u64 (x4 : Int), .int .u64 (x5 : Int), .int .u64 0, .int .u64 0, .bool false, .slice none 0 0, .slice none 0 0, .slice none 0 0] (0, 0) _ rfl HZ.out Try.underlying36 rfl (by kernel_rfl)) rfl (HA5.out.fin hp (m' := ⟨1, x1, x2, x3, x4, x5, 0, 0, false, [], [], []⟩) (ve := (.slice none 0 0)) (vm := (.slice none 0 0)) (vg := (.slice none 0 0)) (us := []) HZ.out HO.out HP5.out (by decide) (fun W _ => ⟨⟨⟨by simp, by simp, HX1.out, HX2.out, HX3.out, HX4.out, HX5.out, (by simp), (by simp), by simp, by simp⟩, .inl ⟨rfl, rfl⟩, fun u hu => absurd hu List.not_mem_nil, rfl, .inl ⟨rfl, rfl⟩, .inl ⟨rfl, rfl⟩, by simp, by simp, by simp⟩, fun _ => mfree_nil _ _⟩))

set_option maxHeartbeats 8000000 in
set_option maxRecDepth 100000 in
theorem walk_2 (hp : HandP H t v r fo fn ft fe G B z I F) {w : World} {U : Nat → Prop} {l q0 : List UInt8} (X : Nat → Prop) (m : Mg) (ve vm vg : Value) (us : List EE) (hI : I w U l) (hX : ∀ k, X k → k < w.heap.size) (hm : Stay w (fun k => U k ∨ X k) B (fun W => MHas W m ve vm vg us)) (hl : z l ≤ 100000000) (hr0 : H.octet (m.k % 256).toNat l = .ok (2, q0)) :
    Calls Try.prog 37 #[.iface t v, .agg (mgC m ve vm vg)] w (HEnd 1000000 z I U l w (MsgMath.walkH H m l) (toldMsg F X B)) := by
  obtain ⟨a, ca, rfl⟩ := hm.now.els.form
  obtain ⟨b, cb, rfl⟩ := hm.now.ms.shape
  obtain ⟨d, cd, rfl⟩ := hm.now.gs.shape
  obtain ⟨na, hna⟩ : ∃ n, n = us.length := ⟨_, rfl⟩
  obtain ⟨nb, hnb⟩ : ∃ n, n = m.m.length := ⟨_, rfl⟩
  obtain ⟨nd, hnd⟩ : ∃ n, n = m.g.length := ⟨_, rfl⟩
  rw [← hna, ← hnb, ← hnd] at hm ⊢
  have HOk := Lib.hid hm.now.ok
  have HEn := Lib.hid hm.now.ents
  have HUl := Lib.hid hm.now.ul
  have HMl := Lib.hid hm.now.ml
  have HGl := Lib.hid hm.now.gl
  have HL := Lib.hid hl
  have mo := hp.mo
  have eo := hp.eo
  have mn := hp.mn
  have en := hp.en
  have mt := hp.mt
  have et := hp.et
  obtain ⟨w0, hw0⟩ : ∃ w0, w0 = (w.alloc (.cells (mgC m (.slice a na ca) (.slice b nb cb) (.slice d nd cd)) 36)).alloc (.cells zeroM 36) := ⟨_, rfl⟩
  have HS0 := Lib.hid (walkStart hp hI hX hm hw0)
  have HW0 := Lib.hid hw0
  obtain ⟨c0, hc0⟩ : ∃ c0, c0 = (m.k % 256).toNat := ⟨_, rfl⟩
  have hcv := conv_kind m.k c0 hc0
  have hc256 : c0 < 256 := by omega
  rw [← hc0] at hr0
  have hcb : ∀ W, (convert 5 3 (.int .u8 2)).run Try.prog W = .ok (.int .i64 2) W := fun W => conv_byte 2 (by decide) W
  have HR0 := Lib.hid hr0
  have HP0 := Lib.hid (show MsgMath.walkH H m l = MsgMath.bindP (MsgMath.withinH H m.f 1 7) (fun f => MsgMath.bindP (MsgMath.withinH H m.o 1 7) fun o => MsgMath.bindP (MsgMath.withinH H m.t 1 MsgMath.MT) fun t => MsgMath.bodyH H 2 f o t m) q0 by rw [MsgMath.walkH, ← hc0, MsgMath.bindP_ok hr0, if_pos (by decide)])
  clear hna hnb hnd hI hX hm hl hw0 hr0 hc0
  simp only [mgC]
  go_enter Try.func37, Try.ntmps37
  go_wp2_with fail
  have e0 : w0 = (w.alloc (.cells #[.int .i64 m.k, .int .u64 (m.f : Int), .int .u64 (m.o : Int), .int .u64 (m.t : Int), .int .u64 (m.i : Int), .int .u64 (m.l : Int), .int .u64 (m.c : Int), .int .u64 (m.s : Int), .bool m.y, .slice a na ca, .slice b nb cb, .slice d nd cd] 36)).alloc (.cells #[.int .i64 0, .int .u64 0, .int .u64 0, .int .u64 0, .int .u64 0, .int .u64 0, .int .u64 0, .int .u64 0, .bool false, .slice none 0 0, .slice none 0 0, .slice none 0 0] 36) := HW0.out
  rw [← e0]
  clear e0 HW0
  refine (hp.octet _ HS0.out.hand hc256 (by have := HS0.out.ll; have := HL.out; omega)).mono ?_
  intro e w1 h
  obtain ⟨y, U1, rfl, ho, ⟨rfl, -⟩, hI1, hU1, hq⟩ := h.ok HR0.out
  have HS1 := Lib.hid (HS0.out.call ho hI1 hU1 hq)
  clear h ho hI1 hU1 hq HS0 HR0 hcv hc256
  go_wp2_with (refine wpList_store_all rfl 36 (.tmp 5) (.tmp 12) rfl w1.heap.size #[.int .i64 2, .int .u64 0, .int .u64 0, .int .u64 0, .int .u64 0, .int .u64 0, .int .u64 0, .int .u64 0, .bool false, .slice none 0 0, .slice none 0 0, .slice none 0 0] rfl rfl 36 zeroM (Blk.new w1 36 zeroM) (by kernel_rfl) rfl (by simp [Value.oneCell']) ?_; intro w2 hb ho; (have HA0 := Lib.hid (HS1.out.told hp hb ho)); (have k0 : w2.cell? ⟨w1.heap.size, 0, none⟩ = some (.int .i64 2) := by rw [hb.cell]; rfl); clear hb ho)
  refine (mask_yes 3 _).mono ?_
  rintro e w3 ⟨rfl, rfl⟩
  obtain ⟨T, hT⟩ : ∃ T, T = w1.heap.size := ⟨_, rfl⟩
  obtain ⟨R, hR⟩ : ∃ R, R = w.heap.size + 1 := ⟨_, rfl⟩
  obtain ⟨M, hM⟩ : ∃ M, M = w.heap.size := ⟨_, rfl⟩
  rw [← hT, ← hR, ← hM] at HA0
  rw [← hT] at k0
  rw [← hT, ← hR, ← hM]
  clear hT hR hM HS1 hcb mo eo
  have kn : w3.cell? ⟨M, 1, none⟩ = some (.int .u64 (m.f : Int)) := by rw [HA0.out.bm.cell]; rfl
  cases hr1 : MsgMath.withinH H m.f 1 7 q0 with
  | error c =>
    have HE := Lib.hid (HP0.out.trans (MsgMath.bindP_err hr1))
    have HR := Lib.hid hr1
    clear hr1
    go_wp2_with fail
    refine (within_any hp m.f 1 7 HA0.out.hand HOk.out.f (by have := HA0.out.ll; have := HL.out; omega)).mono ?_
    intro e w4 h
    obtain ⟨ho, hc, rfl⟩ := h.err HR.out
    exact ⟨rfl, HA0.out.lost HE.out ho hc⟩
  | ok pr =>
  obtain ⟨x1, q1⟩ := pr
  have hp1 := HP0.out.trans (MsgMath.bindP_ok hr1)
  try dsimp only at hp1
  have HP1 := Lib.hid hp1
  have HR1 := Lib.hid hr1
  clear hp1 hr1 HP0
  go_wp2_with fail
  refine (within_any hp m.f 1 7 HA0.out.hand HOk.out.f (by have := HA0.out.ll; have := HL.out; omega)).mono ?_
  intro e wc1 h
  obtain ⟨y1, U11, rfl, ho1, hv1, hI1, hU1, hq1⟩ := h.ok HR1.out
  have HC1 := Lib.hid (HA0.out.call ho1 hI1 hU1 hq1)
  obtain ⟨rfl, hx1, hlo1, hhi1⟩ := hv1
  have HX1 := Lib.hid (show x1 < 18446744073709551616 from hx1)
  clear hx1 hlo1 hhi1
  clear h ho1 hI1 hU1 hq1 HR1 kn k0 HA0
  go_wp2_with (refine wpList_store_fld rfl 31 (.tmp 26) (.tmp 25) rfl T 1 (.int .u64 (x1 : Int)) rfl rfl 36 #[.int .i64 2, .int .u64 0, .int .u64 0, .int .u64 0, .int .u64 0, .int .u64 0, .int .u64 0, .int .u64 0, .bool false, .slice none 0 0, .slice none 0 0, .slice none 0 0] #[.int .i64 2, .int .u64 (x1 : Int), .int .u64 0, .int .u64 0, .int .u64 0, .int .u64 0, .int .u64 0, .int .u64 0, .bool false, .slice none 0 0, .slice none 0 0, .slice none 0 0] HC1.out.bt (by simp) rfl (by kernel_rfl) rfl ?_; intro ws1 hb ho; (have HA1 := Lib.hid (HC1.out.set hp hb ho)); (have kn : ws1.cell? ⟨M, 2, none⟩ = some (.int .u64 (m.o : Int)) := by rw [HA1.out.bm.cell]; rfl); (have k0 : ws1.cell? ⟨T, 0, none⟩ = some (.int .i64 2) := by rw [hb.cell]; rfl); clear hb ho)
  cases hr2 : MsgMath.withinH H m.o 1 7 q1 with
  | error c =>
    have HE := Lib.hid (HP1.out.trans (MsgMath.bindP_err hr2))
    have HR := Lib.hid hr2
    clear hr2
    go_wp2_with fail
    refine (within_any hp m.o 1 7 HA1.out.hand HOk.out.o (by have := HA1.out.ll; have := HL.out; omega)).mono ?_
    intro e w4 h
    obtain ⟨ho, hc, rfl⟩ := h.err HR.out
    exact ⟨rfl, HA1.out.lost HE.out ho hc⟩
  | ok pr =>
  obtain ⟨x2, q2⟩ := pr
  have hp2 := HP1.out.trans (MsgMath.bindP_ok hr2)
  try dsimp only at hp2
  have HP2 := Lib.hid hp2
  have HR2 := Lib.hid hr2
  clear hp2 hr2 HP1
  go_wp2_with fail
  refine (within_any hp m.o 1 7 HA1.out.hand HOk.out.o (by have := HA1.out.ll; have := HL.out; omega)).mono ?_
  intro e wc2 h
  obtain ⟨y2, U12, rfl, ho2, hv2, hI2, hU2, hq2⟩ := h.ok HR2.out
  have HC2 := Lib.hid (HA1.out.call ho2 hI2 hU2 hq2)
  obtain ⟨rfl, hx2, hlo2, hhi2⟩ := hv2
  have HX2 := Lib.hid (show x2 < 18446744073709551616 from hx2)
  clear hx2 hlo2 hhi2
  clear h ho2 hI2 hU2 hq2 HR2 kn k0 HA1
  go_wp2_with (refine wpList_store_fld rfl 31 (.tmp 31) (.tmp 30) rfl T 2 (.int .u64 (x2 : Int)) rfl rfl 36 #[.int .i64 2, .int .u64 (x1 : Int), .int .u64 0, .int .u64 0, .int .u64 0, .int .u64 0, .int .u64 0, .int .u64 0, .bool false, .slice none 0 0, .slice none 0 0, .slice none 0 0] #[.int .i64 2, .int .u64 (x1 : Int), .int .u64 (x2 : Int), .int .u64 0, .int .u64 0, .int .u64 0, .int .u64 0, .int .u64 0, .bool false, .slice none 0 0, .slice none 0 0, .slice none 0 0] HC2.out.bt (by simp) rfl (by kernel_rfl) rfl ?_; intro ws2 hb ho; (have HA2 := Lib.hid (HC2.out.set hp hb ho)); (have kn : ws2.cell? ⟨M, 3, none⟩ = some (.int .u64 (m.t : Int)) := by rw [HA2.out.bm.cell]; rfl); (have k0 : ws2.cell? ⟨T, 0, none⟩ = some (.int .i64 2) := by rw [hb.cell]; rfl); clear hb ho)
  cases hr3 : MsgMath.withinH H m.t 1 MsgMath.MT q2 with
  | error c =>
    have HE := Lib.hid (HP2.out.trans (MsgMath.bindP_err hr3))
    have HR := Lib.hid hr3
    clear hr3
    go_wp2_with fail
    refine (within_any hp m.t 1 MsgMath.MT HA2.out.hand HOk.out.t (by have := HA2.out.ll; have := HL.out; omega)).mono ?_
    intro e w4 h
    obtain ⟨ho, hc, rfl⟩ := h.err HR.out
    exact ⟨rfl, HA2.out.lost HE.out ho hc⟩
  | ok pr =>
  obtain ⟨x3, q3⟩ := pr
  have hp3 := HP2.out.trans (MsgMath.bindP_ok hr3)
  try dsimp only at hp3
  rw [MsgMath.bodyH, if_neg (by decide), if_pos rfl] at hp3
  have HP3 := Lib.hid hp3
  have HR3 := Lib.hid hr3
  clear hp3 hr3 HP2
  go_wp2_with fail
  refine (within_any hp m.t 1 MsgMath.MT HA2.out.hand HOk.out.t (by have := HA2.out.ll; have := HL.out; omega)).mono ?_
  intro e wc3 h
  obtain ⟨y3, U13, rfl, ho3, hv3, hI3, hU3, hq3⟩ := h.ok HR3.out
  have HC3 := Lib.hid (HA2.out.call ho3 hI3 hU3 hq3)
  obtain ⟨rfl, hx3, hlo3, hhi3⟩ := hv3
  have HX3 := Lib.hid (show x3 < 18446744073709551616 from hx3)
  clear hx3 hlo3 hhi3
  clear h ho3 hI3 hU3 hq3 HR3 kn k0 HA2
  go_wp2_with (refine wpList_store_fld rfl 31 (.tmp 36) (.tmp 35) rfl T 3 (.int .u64 (x3 : Int)) rfl rfl 36 #[.int .i64 2, .int .u64 (x1 : Int), .int .u64 (x2 : Int), .int .u64 0, .int .u64 0, .int .u64 0, .int .u64 0, .int .u64 0, .bool false, .slice none 0 0, .slice none 0 0, .slice none 0 0] #[.int .i64 2, .int .u64 (x1 : Int), .int .u64 (x2 : Int), .int .u64 (x3 : Int), .int .u64 0, .int .u64 0, .int .u64 0, .int .u64 0, .bool false, .slice none 0 0, .slice none 0 0, .slice none 0 0] HC3.out.bt (by simp) rfl (by kernel_rfl) rfl ?_; intro ws3 hb ho; (have HA3 := Lib.hid (HC3.out.set hp hb ho)); (have kn : ws3.cell? ⟨M, 8, none⟩ = some (.bool m.y) := by rw [HA3.out.bm.cell]; rfl); (have k0 : ws3.cell? ⟨T, 0, none⟩ = some (.int .i64 2) := by rw [hb.cell]; rfl); clear hb ho)
  cases hr4 : MsgMath.yesH H m.y q3 with
  | error c =>
    have HE := Lib.hid (HP3.out.trans (MsgMath.bindP_err hr4))
    have HR := Lib.hid hr4
    clear hr4
    go_wp2_with fail
    refine (yes_any hp m.y HA3.out.hand (by have := HA3.out.ll; have := HL.out; omega)).mono ?_
    intro e w4 h
    obtain ⟨ho, hc, rfl⟩ := h.err HR.out
    exact ⟨rfl, HA3.out.lost HE.out ho hc⟩
  | ok pr =>
  obtain ⟨x4, q4⟩ := pr
  have hp4 := HP3.out.trans (MsgMath.bindP_ok hr4)
  try dsimp only at hp4
  have HP4 := Lib.hid hp4
  have HR4 := Lib.hid hr4
  clear hp4 hr4 HP3
  go_wp2_with fail
  refine (yes_any hp m.y HA3.out.hand (by have := HA3.out.ll; have := HL.out; omega)).mono ?_
  intro e wc4 h
  obtain ⟨y4, U14, rfl, ho4, hv4, hI4, hU4, hq4⟩ := h.ok HR4.out
  have HC4 := Lib.hid (HA3.out.call ho4 hI4 hU4 hq4)
  obtain rfl := hv4
  clear h ho4 hI4 hU4 hq4 HR4 kn k0 HA3
  go_wp2_with (first
    | (refine wpList_store_fld rfl 4 (.tmp 57) (.tmp 56) rfl T 8 (.bool x4) rfl rfl 36 #[.int .i64 2, .int .u64 (x1 : Int), .int .u64 (x2 : Int), .int .u64 (x3 : Int), .int .u64 0, .int .u64 0, .int .u64 0, .int .u64 0, .bool false, .slice none 0 0, .slice none 0 0, .slice none 0 0] #[.int .i64 2, .int .u64 (x1 : Int), .int .u64 (x2 : Int), .int .u64 (x3 : Int), .int .u64 0, .int .u64 0, .int .u64 0, .int .u64 0, .bool x4, .slice none 0 0, .slice none 0 0, .slice none 0 0] HC4.out.bt (by simp) rfl (by kernel_rfl) rfl ?_; intro ws4 hb ho; (have HA4 := Lib.hid (HC4.out.set hp hb ho)); (have k0 : ws4.cell? ⟨T, 0, none⟩ = some (.int .i64 2) := by rw [hb.cell]; rfl); clear hb ho)
    | (refine wpList_load_by rfl 36 (.tmp 5) rfl _ (.agg #[.int .i64 2, .int .u64 (x1 : Int), .int .u64 (x2 : Int), .int .u64 (x3 : Int), .int .u64 0, .int .u64 0, .int .u64 0, .int .u64 0, .bool x4, .slice none 0 0, .slice none 0 0, .slice none 0 0]) rfl (Blk.loads (P := Try.prog) HA4.out.bt 36 _ Try.underlying36 rfl (by kernel_rfl)) ?_)
    | (refine wpList_store_all rfl 36 (.tmp 4) (.tmp 129) rfl R #[.int .i64 2, .int .u64 (x1 : Int), .int .u64 (x2 : Int), .int .u64 (x3 : Int), .int .u64 0, .int .u64 0, .int .u64 0, .int .u64 0, .bool x4, .slice none 0 0, .slice none 0 0, .slice none 0 0] rfl rfl 36 zeroM HA4.out.br (by kernel_rfl) rfl (by simp [Value.oneCell']) ?_; intro wz hb ho; (have HZ := Lib.hid hb); (have HO := Lib.hid ho); clear hb ho))
  exact bodyPost_ret (v := .agg #[.int .i64 2, .int .u64 (x1 : Int), .int .u64 (x2 : Int), .int .u64 (x3 : Int), .int .u64 0, .int .u64 0, .int .u64 0, .int .u64 0, .bool x4, .slice none 0 0, .slice none 0 0, .slice none 0 0]) (results_cell_row rfl _ _ R 36 #[.int .i64 2, .int .u64 (x1 : Int), .int .u64 (x2 : Int), .int .u64 (x3 : Int), .int .u64 0, .int .u64 0, .int .u64 0, .int .u64 0, .bool x4, .slice none 0 0, .slice none 0 0, .slice none 0 0] (0, 0) _ rfl HZ.out Try.underlying36 rfl (by kernel_rfl)) rfl (HA4.out.fin hp (m' := ⟨2, x1, x2, x3, 0, 0, 0, 0, x4, [], [], []⟩) (ve := (.slice none 0 0)) (vm := (.slice none 0 0)) (vg := (.slice none 0 0)) (us := []) HZ.out HO.out HP4.out (by decide) (fun W _ => ⟨⟨⟨by simp, by simp, HX1.out, HX2.out, HX3.out, (by simp), (by simp), (by simp), (by simp), by simp, by simp⟩, .inl ⟨rfl, rfl⟩, fun u hu => absurd hu List.not_mem_nil, rfl, .inl ⟨rfl, rfl⟩, .inl ⟨rfl, rfl⟩, by simp, by simp, by simp⟩, fun _ => mfree_nil _ _⟩))

set_option maxHeartbeats 8000000 in
set_option maxRecDepth 100000 in
theorem walk_3 (hp : HandP H t v r fo fn ft fe G B z I F) {w : World} {U : Nat → Prop} {l q0 : List UInt8} (X : Nat → Prop) (m : Mg) (ve vm vg : Value) (us : List EE) (hI : I w U l) (hX : ∀ k, X k → k < w.heap.size) (hm : Stay w (fun k => U k ∨ X k) B (fun W => MHas W m ve vm vg us)) (hl : z l ≤ 100000000) (hr0 : H.octet (m.k % 256).toNat l = .ok (3, q0)) :
    Calls Try.prog 37 #[.iface t v, .agg (mgC m ve vm vg)] w (HEnd 1000000 z I U l w (MsgMath.walkH H m l) (toldMsg F X B)) := by
  obtain ⟨a, ca, rfl⟩ := hm.now.els.form
  obtain ⟨b, cb, rfl⟩ := hm.now.ms.shape
  obtain ⟨d, cd, rfl⟩ := hm.now.gs.shape
  obtain ⟨na, hna⟩ : ∃ n, n = us.length := ⟨_, rfl⟩
  obtain ⟨nb, hnb⟩ : ∃ n, n = m.m.length := ⟨_, rfl⟩
  obtain ⟨nd, hnd⟩ : ∃ n, n = m.g.length := ⟨_, rfl⟩
  rw [← hna, ← hnb, ← hnd] at hm ⊢
  have HOk := Lib.hid hm.now.ok
  have HEn := Lib.hid hm.now.ents
  have HUl := Lib.hid hm.now.ul
  have HMl := Lib.hid hm.now.ml
  have HGl := Lib.hid hm.now.gl
  have HL := Lib.hid hl
  have mo := hp.mo
  have eo := hp.eo
  have mn := hp.mn
  have en := hp.en
  have mt := hp.mt
  have et := hp.et
  obtain ⟨w0, hw0⟩ : ∃ w0, w0 = (w.alloc (.cells (mgC m (.slice a na ca) (.slice b nb cb) (.slice d nd cd)) 36)).alloc (.cells zeroM 36) := ⟨_, rfl⟩
  have HS0 := Lib.hid (walkStart hp hI hX hm hw0)
  have HW0 := Lib.hid hw0
  obtain ⟨c0, hc0⟩ : ∃ c0, c0 = (m.k % 256).toNat := ⟨_, rfl⟩
  have hcv := conv_kind m.k c0 hc0
  have hc256 : c0 < 256 := by omega
  rw [← hc0] at hr0
  have hcb : ∀ W, (convert 5 3 (.int .u8 3)).run Try.prog W = .ok (.int .i64 3) W := fun W => conv_byte 3 (by decide) W
  have HR0 := Lib.hid hr0
  have HP0 := Lib.hid (show MsgMath.walkH H m l = MsgMath.bindP (MsgMath.withinH H m.f 1 7) (fun f => MsgMath.bindP (MsgMath.withinH H m.o 1 7) fun o => MsgMath.bindP (MsgMath.withinH H m.t 1 MsgMath.MT) fun t => MsgMath.bodyH H 3 f o t m) q0 by rw [MsgMath.walkH, ← hc0, MsgMath.bindP_ok hr0, if_pos (by decide)])
  clear hna hnb hnd hI hX hm hl hw0 hr0 hc0
  simp only [mgC]
  go_enter Try.func37, Try.ntmps37
  go_wp2_with fail
  have e0 : w0 = (w.alloc (.cells #[.int .i64 m.k, .int .u64 (m.f : Int), .int .u64 (m.o : Int), .int .u64 (m.t : Int), .int .u64 (m.i : Int), .int .u64 (m.l : Int), .int .u64 (m.c : Int), .int .u64 (m.s : Int), .bool m.y, .slice a na ca, .slice b nb cb, .slice d nd cd] 36)).alloc (.cells #[.int .i64 0, .int .u64 0, .int .u64 0, .int .u64 0, .int .u64 0, .int .u64 0, .int .u64 0, .int .u64 0, .bool false, .slice none 0 0, .slice none 0 0, .slice none 0 0] 36) := HW0.out
  rw [← e0]
  clear e0 HW0
  refine (hp.octet _ HS0.out.hand hc256 (by have := HS0.out.ll; have := HL.out; omega)).mono ?_
  intro e w1 h
  obtain ⟨y, U1, rfl, ho, ⟨rfl, -⟩, hI1, hU1, hq⟩ := h.ok HR0.out
  have HS1 := Lib.hid (HS0.out.call ho hI1 hU1 hq)
  clear h ho hI1 hU1 hq HS0 HR0 hcv hc256
  go_wp2_with (refine wpList_store_all rfl 36 (.tmp 5) (.tmp 12) rfl w1.heap.size #[.int .i64 3, .int .u64 0, .int .u64 0, .int .u64 0, .int .u64 0, .int .u64 0, .int .u64 0, .int .u64 0, .bool false, .slice none 0 0, .slice none 0 0, .slice none 0 0] rfl rfl 36 zeroM (Blk.new w1 36 zeroM) (by kernel_rfl) rfl (by simp [Value.oneCell']) ?_; intro w2 hb ho; (have HA0 := Lib.hid (HS1.out.told hp hb ho)); (have k0 : w2.cell? ⟨w1.heap.size, 0, none⟩ = some (.int .i64 3) := by rw [hb.cell]; rfl); clear hb ho)
  refine (mask_yes 3 _).mono ?_
  rintro e w3 ⟨rfl, rfl⟩
  obtain ⟨T, hT⟩ : ∃ T, T = w1.heap.size := ⟨_, rfl⟩
  obtain ⟨R, hR⟩ : ∃ R, R = w.heap.size + 1 := ⟨_, rfl⟩
  obtain ⟨M, hM⟩ : ∃ M, M = w.heap.size := ⟨_, rfl⟩
  rw [← hT, ← hR, ← hM] at HA0
  rw [← hT] at k0
  rw [← hT, ← hR, ← hM]
  clear hT hR hM HS1 hcb mo eo
  have kn : w3.cell? ⟨M, 1, none⟩ = some (.int .u64 (m.f : Int)) := by rw [HA0.out.bm.cell]; rfl
  cases hr1 : MsgMath.withinH H m.f 1 7 q0 with
  | error c =>
    have HE := Lib.hid (HP0.out.trans (MsgMath.bindP_err hr1))
    have HR := Lib.hid hr1
    clear hr1
    go_wp2_with fail
    refine (within_any hp m.f 1 7 HA0.out.hand HOk.out.f (by have := HA0.out.ll; have := HL.out; omega)).mono ?_
    intro e w4 h
    obtain ⟨ho, hc, rfl⟩ := h.err HR.out
    exact ⟨rfl, HA0.out.lost HE.out ho hc⟩
  | ok pr =>
  obtain ⟨x1, q1⟩ := pr
  have hp1 := HP0.out.trans (MsgMath.bindP_ok hr1)
  try dsimp only at hp1
  have HP1 := Lib.hid hp1
  have HR1 := Lib.hid hr1
  clear hp1 hr1 HP0
  go_wp2_with fail
  refine (within_any hp m.f 1 7 HA0.out.hand HOk.out.f (by have := HA0.out.ll; have := HL.out; omega)).mono ?_
  intro e wc1 h
  obtain ⟨y1, U11, rfl, ho1, hv1, hI1, hU1, hq1⟩ := h.ok HR1.out
  have HC1 := Lib.hid (HA0.out.call ho1 hI1 hU1 hq1)
  obtain ⟨rfl, hx1, hlo1, hhi1⟩ := hv1
  have HX1 := Lib.hid (show x1 < 18446744073709551616 from hx1)
  clear hx1 hlo1 hhi1
  clear h ho1 hI1 hU1 hq1 HR1 kn k0 HA0
  go_wp2_with (refine wpList_store_fld rfl 31 (.tmp 26) (.tmp 25) rfl T 1 (.int .u64 (x1 : Int)) rfl rfl 36 #[.int .i64 3, .int .u64 0, .int .u64 0, .int .u64 0, .int .u64 0, .int .u64 0, .int .u64 0, .int .u64 0, .bool false, .slice none 0 0, .slice none 0 0, .slice none 0 0] #[.int .i64 3, .int .u64 (x1 : Int), .int .u64 0, .int .u64 0, .int .u64 0, .int .u64 0, .int .u64 0, .int .u64 0, .bool false, .slice none 0 0, .slice none 0 0, .slice none 0 0] HC1.out.bt (by simp) rfl (by kernel_rfl) rfl ?_; intro ws1 hb ho; (have HA1 := Lib.hid (HC1.out.set hp hb ho)); (have kn : ws1.cell? ⟨M, 2, none⟩ = some (.int .u64 (m.o : Int)) := by rw [HA1.out.bm.cell]; rfl); (have k0 : ws1.cell? ⟨T, 0, none⟩ = some (.int .i64 3) := by rw [hb.cell]; rfl); clear hb ho)
  cases hr2 : MsgMath.withinH H m.o 1 7 q1 with
  | error c =>
    have HE := Lib.hid (HP1.out.trans (MsgMath.bindP_err hr2))
    have HR := Lib.hid hr2
    clear hr2
    go_wp2_with fail
    refine (within_any hp m.o 1 7 HA1.out.hand HOk.out.o (by have := HA1.out.ll; have := HL.out; omega)).mono ?_
    intro e w4 h
    obtain ⟨ho, hc, rfl⟩ := h.err HR.out
    exact ⟨rfl, HA1.out.lost HE.out ho hc⟩
  | ok pr =>
  obtain ⟨x2, q2⟩ := pr
  have hp2 := HP1.out.trans (MsgMath.bindP_ok hr2)
  try dsimp only at hp2
  have HP2 := Lib.hid hp2
  have HR2 := Lib.hid hr2
  clear hp2 hr2 HP1
  go_wp2_with fail
  refine (within_any hp m.o 1 7 HA1.out.hand HOk.out.o (by have := HA1.out.ll; have := HL.out; omega)).mono ?_
  intro e wc2 h
  obtain ⟨y2, U12, rfl, ho2, hv2, hI2, hU2, hq2⟩ := h.ok HR2.out
  have HC2 := Lib.hid (HA1.out.call ho2 hI2 hU2 hq2)
  obtain ⟨rfl, hx2, hlo2, hhi2⟩ := hv2
  have HX2 := Lib.hid (show x2 < 18446744073709551616 from hx2)
  clear hx2 hlo2 hhi2
  clear h ho2 hI2 hU2 hq2 HR2 kn k0 HA1
  go_wp2_with (refine wpList_store_fld rfl 31 (.tmp 31) (.tmp 30) rfl T 2 (.int .u64 (x2 : Int)) rfl rfl 36 #[.int .i64 3, .int .u64 (x1 : Int), .int .u64 0, .int .u64 0, .int .u64 0, .int .u64 0, .int .u64 0, .int .u64 0, .bool false, .slice none 0 0, .slice none 0 0, .slice none 0 0] #[.int .i64 3, .int .u64 (x1 : Int), .int .u64 (x2 : Int), .int .u64 0, .int .u64 0, .int .u64 0, .int .u64 0, .int .u64 0, .bool false, .slice none 0 0, .slice none 0 0, .slice none 0 0] HC2.out.bt (by simp) rfl (by kernel_rfl) rfl ?_; intro ws2 hb ho; (have HA2 := Lib.hid (HC2.out.set hp hb ho)); (have kn : ws2.cell? ⟨M, 3, none⟩ = some (.int .u64 (m.t : Int)) := by rw [HA2.out.bm.cell]; rfl); (have k0 : ws2.cell? ⟨T, 0, none⟩ = some (.int .i64 3) := by rw [hb.cell]; rfl); clear hb ho)
  cases hr3 : MsgMath.withinH H m.t 1 MsgMath.MT q2 with
  | error c =>
    have HE := Lib.hid (HP2.out.trans (MsgMath.bindP_err hr3))
    have HR := Lib.hid hr3
    clear hr3
    go_wp2_with fail
    refine (within_any hp m.t 1 MsgMath.MT HA2.out.hand HOk.out.t (by have := HA2.out.ll; have := HL.out; omega)).mono ?_
    intro e w4 h
    obtain ⟨ho, hc, rfl⟩ := h.err HR.out
    exact ⟨rfl, HA2.out.lost HE.out ho hc⟩
  | ok pr =>
  obtain ⟨x3, q3⟩ := pr
  have hp3 := HP2.out.trans (MsgMath.bindP_ok hr3)
  try dsimp only at hp3
  rw [MsgMath.bodyH, if_neg (by decide), if_neg (by decide), if_pos rfl] at hp3
  have HP3 := Lib.hid hp3
  have HR3 := Lib.hid hr3
  clear hp3 hr3 HP2
  go_wp2_with fail
  refine (within_any hp m.t 1 MsgMath.MT HA2.out.hand HOk.out.t (by have := HA2.out.ll; have := HL.out; omega)).mono ?_
  intro e wc3 h
  obtain ⟨y3, U13, rfl, ho3, hv3, hI3, hU3, hq3⟩ := h.ok HR3.out
  have HC3 := Lib.hid (HA2.out.call ho3 hI3 hU3 hq3)
  obtain ⟨rfl, hx3, hlo3, hhi3⟩ := hv3
  have HX3 := Lib.hid (show x3 < 18446744073709551616 from hx3)
  clear hx3 hlo3 hhi3
  clear h ho3 hI3 hU3 hq3 HR3 kn k0 HA2
  go_wp2_with (refine wpList_store_fld rfl 31 (.tmp 36) (.tmp 35) rfl T 3 (.int .u64 (x3 : Int)) rfl rfl 36 #[.int .i64 3, .int .u64 (x1 : Int), .int .u64 (x2 : Int), .int .u64 0, .int .u64 0, .int .u64 0, .int .u64 0, .int .u64 0, .bool false, .slice none 0 0, .slice none 0 0, .slice none 0 0] #[.int .i64 3, .int .u64 (x1 : Int), .int .u64 (x2 : Int), .int .u64 (x3 : Int), .int .u64 0, .int .u64 0, .int .u64 0, .int .u64 0, .bool false, .slice none 0 0, .slice none 0 0, .slice none 0 0] HC3.out.bt (by simp) rfl (by kernel_rfl) rfl ?_; intro ws3 hb ho; (have HA3 := Lib.hid (HC3.out.set hp hb ho)); (have kn : ws3.cell? ⟨M, 4, none⟩ = some (.int .u64 (m.i : Int)) := by rw [HA3.out.bm.cell]; rfl); (have k0 : ws3.cell? ⟨T, 0, none⟩ = some (.int .i64 3) := by rw [hb.cell]; rfl); clear hb ho)
  cases hr4 : MsgMath.withinH H m.i 0 MsgMath.MT q3 with
  | error c =>
    have HE := Lib.hid (HP3.out.trans (MsgMath.bindP_err hr4))
    have HR := Lib.hid hr4
    clear hr4
    go_wp2_with fail
    refine (place_any hp m.i HA3.out.hand HOk.out.i (by have := HA3.out.ll; have := HL.out; omega)).mono ?_
    intro e w4 h
    obtain ⟨ho, hc, rfl⟩ := h.err HR.out
    exact ⟨rfl, HA3.out.lost HE.out ho hc⟩
  | ok pr =>
  obtain ⟨x4, q4⟩ := pr
  have hp4 := HP3.out.trans (MsgMath.bindP_ok hr4)
  try dsimp only at hp4
  have HP4 := Lib.hid hp4
  have HR4 := Lib.hid hr4
  clear hp4 hr4 HP3
  go_wp2_with fail
  refine (place_any hp m.i HA3.out.hand HOk.out.i (by have := HA3.out.ll; have := HL.out; omega)).mono ?_
  intro e wc4 h
  obtain ⟨y4, U14, rfl, ho4, hv4, hI4, hU4, hq4⟩ := h.ok HR4.out
  have HC4 := Lib.hid (HA3.out.call ho4 hI4 hU4 hq4)
  obtain ⟨rfl, hx4, hlo4, hhi4⟩ := hv4
  have HX4 := Lib.hid (show x4 < 18446744073709551616 from hx4)
  clear hx4 hlo4 hhi4
  clear h ho4 hI4 hU4 hq4 HR4 kn k0 HA3
  go_wp2_with (refine wpList_store_fld rfl 31 (.tmp 64) (.tmp 63) rfl T 4 (.int .u64 (x4 : Int)) rfl rfl 36 #[.int .i64 3, .int .u64 (x1 : Int), .int .u64 (x2 : Int), .int .u64 (x3 : Int), .int .u64 0, .int .u64 0, .int .u64 0, .int .u64 0, .bool false, .slice none 0 0, .slice none 0 0, .slice none 0 0] #[.int .i64 3, .int .u64 (x1 : Int), .int .u64 (x2 : Int), .int .u64 (x3 : Int), .int .u64 (x4 : Int), .int .u64 0, .int .u64 0, .int .u64 0, .bool false, .slice none 0 0, .slice none 0 0, .slice none 0 0] HC4.out.bt (by simp) rfl (by kernel_rfl) rfl ?_; intro ws4 hb ho; (have HA4 := Lib.hid (HC4.out.set hp hb ho)); (have kn : ws4.cell? ⟨M, 5, none⟩ = some (.int .u64 (m.l : Int)) := by rw [HA4.out.bm.cell]; rfl); (have k0 : ws4.cell? ⟨T, 0, none⟩ = some (.int .i64 3) := by rw [hb.cell]; rfl); clear hb ho)
  cases hr5 : MsgMath.withinH H m.l 0 MsgMath.MT q4 with
  | error c =>
    have HE := Lib.hid (HP4.out.trans (MsgMath.bindP_err hr5))
    have HR := Lib.hid hr5
    clear hr5
    go_wp2_with fail
    refine (place_any hp m.l HA4.out.hand HOk.out.l (by have := HA4.out.ll; have := HL.out; omega)).mono ?_
    intro e w4 h
    obtain ⟨ho, hc, rfl⟩ := h.err HR.out
    exact ⟨rfl, HA4.out.lost HE.out ho hc⟩
  | ok pr =>
  obtain ⟨x5, q5⟩ := pr
  have hp5 := HP4.out.trans (MsgMath.bindP_ok hr5)
  try dsimp only at hp5
  have HP5 := Lib.hid hp5
  have HR5 := Lib.hid hr5
  clear hp5 hr5 HP4
  go_wp2_with fail
  refine (place_any hp m.l HA4.out.hand HOk.out.l (by have := HA4.out.ll; have := HL.out; omega)).mono ?_
  intro e wc5 h
  obtain ⟨y5, U15, rfl, ho5, hv5, hI5, hU5, hq5⟩ := h.ok HR5.out
  have HC5 := Lib.hid (HA4.out.call ho5 hI5 hU5 hq5)
  obtain ⟨rfl, hx5, hlo5, hhi5⟩ := hv5
  have HX5 := Lib.hid (show x5 < 18446744073709551616 from hx5)
  clear hx5 hlo5 hhi5
  clear h ho5 hI5 hU5 hq5 HR5 kn k0 HA4
  go_wp2_with (refine wpList_store_fld rfl 31 (.tmp 69) (.tmp 68) rfl T 5 (.int .u64 (x5 : Int)) rfl rfl 36 #[.int .i64 3, .int .u64 (x1 : Int), .int .u64 (x2 : Int), .int .u64 (x3 : Int), .int .u64 (x4 : Int), .int .u64 0, .int .u64 0, .int .u64 0, .bool false, .slice none 0 0, .slice none 0 0, .slice none 0 0] #[.int .i64 3, .int .u64 (x1 : Int), .int .u64 (x2 : Int), .int .u64 (x3 : Int), .int .u64 (x4 : Int), .int .u64 (x5 : Int), .int .u64 0, .int .u64 0, .bool false, .slice none 0 0, .slice none 0 0, .slice none 0 0] HC5.out.bt (by simp) rfl (by kernel_rfl) rfl ?_; intro ws5 hb ho; (have HA5 := Lib.hid (HC5.out.set hp hb ho)); (have kn : ws5.cell? ⟨M, 6, none⟩ = some (.int .u64 (m.c : Int)) := by rw [HA5.out.bm.cell]; rfl); (have k0 : ws5.cell? ⟨T, 0, none⟩ = some (.int .i64 3) := by rw [hb.cell]; rfl); clear hb ho)
  cases hr6 : MsgMath.withinH H m.c 0 MsgMath.MT q5 with
  | error c =>
    have HE := Lib.hid (HP5.out.trans (MsgMath.bindP_err hr6))
    have HR := Lib.hid hr6
    clear hr6
    go_wp2_with fail
    refine (place_any hp m.c HA5.out.hand HOk.out.c (by have := HA5.out.ll; have := HL.out; omega)).mono ?_
    intro e w4 h
    obtain ⟨ho, hc, rfl⟩ := h.err HR.out
    exact ⟨rfl, HA5.out.lost HE.out ho hc⟩
  | ok pr =>
  obtain ⟨x6, q6⟩ := pr
  have hp6 := HP5.out.trans (MsgMath.bindP_ok hr6)
  try dsimp only at hp6
  have HP6 := Lib.hid hp6
  have HR6 := Lib.hid hr6
  clear hp6 hr6 HP5
  go_wp2_with fail
  refine (place_any hp m.c HA5.out.hand HOk.out.c (by have := HA5.out.ll; have := HL.out; omega)).mono ?_
  intro e wc6 h
  obtain ⟨y6, U16, rfl, ho6, hv6, hI6, hU6, hq6⟩ := h.ok HR6.out
  have HC6 := Lib.hid (HA5.out.call ho6 hI6 hU6 hq6)
  obtain ⟨rfl, hx6, hlo6, hhi6⟩ := hv6
  have HX6 := Lib.hid (show x6 < 18446744073709551616 from hx6)
  clear hx6 hlo6 hhi6
  clear h ho6 hI6 hU6 hq6 HR6 kn k0 HA5
  go_wp2_with (refine wpList_store_fld rfl 31 (.tmp 74) (.tmp 73) rfl T 6 (.int .u64 (x6 : Int)) rfl rfl 36 #[.int .i64 3, .int .u64 (x1 : Int), .int .u64 (x2 : Int), .int .u64 (x3 : Int), .int .u64 (x4 : Int), .int .u64 (x5 : Int), .int .u64 0, .int .u64 0, .bool false, .slice none 0 0, .slice none 0 0, .slice none 0 0] #[.int .i64 3, .int .u64 (x1 : Int), .int .u64 (x2 : Int), .int .u64 (x3 : Int), .int .u64 (x4 : Int), .int .u64 (x5 : Int), .int .u64 (x6 : Int), .int .u64 0, .bool false, .slice none 0 0, .slice none 0 0, .slice none 0 0] HC6.out.bt (by simp) rfl (by kernel_rfl) rfl ?_; intro ws6 hb ho; (have HA6 := Lib.hid (HC6.out.set hp hb ho)); (have kn : ws6.cell? ⟨M, 7, none⟩ = some (.int .u64 (m.s : Int)) := by rw [HA6.out.bm.cell]; rfl); (have k0 : ws6.cell? ⟨T, 0, none⟩ = some (.int .i64 3) := by rw [hb.cell]; rfl); clear hb ho)
  cases hr7 : H.number m.s q6 with
  | error c =>
    have HE := Lib.hid (HP6.out.trans (MsgMath.bindP_err hr7))
    have HR := Lib.hid hr7
    clear hr7
    go_wp2_with fail
    refine (hp.number m.s HA6.out.hand HOk.out.s (by have := HA6.out.ll; have := HL.out; omega)).mono ?_
    intro e w4 h
    obtain ⟨ho, hc, rfl⟩ := h.err HR.out
    exact ⟨rfl, HA6.out.lost HE.out ho hc⟩
  | ok pr =>
  obtain ⟨x7, q7⟩ := pr
  have hp7 := HP6.out.trans (MsgMath.bindP_ok hr7)
  try dsimp only at hp7
  have HP7 := Lib.hid hp7
  have HR7 := Lib.hid hr7
  clear hp7 hr7 HP6
  go_wp2_with fail
  refine (hp.number m.s HA6.out.hand HOk.out.s (by have := HA6.out.ll; have := HL.out; omega)).mono ?_
  intro e wc7 h
  obtain ⟨y7, U17, rfl, ho7, hv7, hI7, hU7, hq7⟩ := h.ok HR7.out
  have HC7 := Lib.hid (HA6.out.call ho7 hI7 hU7 hq7)
  obtain ⟨rfl, hx7⟩ := hv7
  have HX7 := Lib.hid (show x7 < 18446744073709551616 from hx7)
  clear hx7
  clear h ho7 hI7 hU7 hq7 HR7 kn k0 HA6
  go_wp2_with (refine wpList_store_fld rfl 31 (.tmp 79) (.tmp 78) rfl T 7 (.int .u64 (x7 : Int)) rfl rfl 36 #[.int .i64 3, .int .u64 (x1 : Int), .int .u64 (x2 : Int), .int .u64 (x3 : Int), .int .u64 (x4 : Int), .int .u64 (x5 : Int), .int .u64 (x6 : Int), .int .u64 0, .bool false, .slice none 0 0, .slice none 0 0, .slice none 0 0] #[.int .i64 3, .int .u64 (x1 : Int), .int .u64 (x2 : Int), .int .u64 (x3 : Int), .int .u64 (x4 : Int), .int .u64 (x5 : Int), .int .u64 (x6 : Int), .int .u64 (x7 : Int), .bool false, .slice none 0 0, .slice none 0 0, .slice none 0 0] HC7.out.bt (by simp) rfl (by kernel_rfl) rfl ?_; intro ws7 hb ho; (have HA7 := Lib.hid (HC7.out.set hp hb ho)); (have kn : ws7.cell? ⟨M, 9, none⟩ = some (.slice a na ca) := by rw [HA7.out.bm.cell]; rfl); (have k0 : ws7.cell? ⟨T, 0, none⟩ = some (.int .i64 3) := by rw [hb.cell]; rfl); clear hb ho)
  cases hr8 : MsgMath.entriesH H m.e q7 with
  | error c =>
    have HE := Lib.hid (HP7.out.trans (MsgMath.bindP_err hr8))
    have HR := Lib.hid hr8
    clear hr8
    go_wp2_with fail
    refine (walkEntries hp HA7.out HEn.out HUl.out (by have := HA7.out.ll; have := HL.out; omega)).mono ?_
    intro e w4 h
    obtain ⟨ho, hc, rfl⟩ := h.err HR.out
    exact ⟨rfl, HA7.out.lost HE.out ho hc⟩
  | ok pr =>
  obtain ⟨x8, q8⟩ := pr
  have hp8 := HP7.out.trans (MsgMath.bindP_ok hr8)
  try dsimp only at hp8
  have HP8 := Lib.hid hp8
  have HR8 := Lib.hid hr8
  clear hp8 hr8 HP7
  go_wp2_with fail
  refine (walkEntries hp HA7.out HEn.out HUl.out (by have := HA7.out.ll; have := HL.out; omega)).mono ?_
  intro e wc8 h
  obtain ⟨y8, U18, rfl, ho8, hv8, hI8, hU8, hq8⟩ := h.ok HR8.out
  have HC8 := Lib.hid (HA7.out.call ho8 hI8 hU8 hq8)
  obtain ⟨us2, hus2, hul2, hst2⟩ := hv8
  obtain ⟨ea, ec, rfl⟩ := hst2.now.1.1.form
  have HUs := Lib.hid hus2
  have HUl2 := Lib.hid hul2
  obtain ⟨ne, hne⟩ : ∃ ne, ne = us2.length := ⟨_, rfl⟩
  rw [← hne] at hst2 ⊢
  have HD8 := Lib.hid (HC8.out.add hst2)
  have HNe := Lib.hid hne
  clear hst2 hus2 hul2 hne HC8
  clear h ho8 hI8 hU8 hq8 HR8 kn k0 HA7
  go_wp2_with (first
    | (refine wpList_store_fld rfl 32 (.tmp 84) (.tmp 83) rfl T 9 (.slice ea ne ec) rfl rfl 36 #[.int .i64 3, .int .u64 (x1 : Int), .int .u64 (x2 : Int), .int .u64 (x3 : Int), .int .u64 (x4 : Int), .int .u64 (x5 : Int), .int .u64 (x6 : Int), .int .u64 (x7 : Int), .bool false, .slice none 0 0, .slice none 0 0, .slice none 0 0] #[.int .i64 3, .int .u64 (x1 : Int), .int .u64 (x2 : Int), .int .u64 (x3 : Int), .int .u64 (x4 : Int), .int .u64 (x5 : Int), .int .u64 (x6 : Int), .int .u64 (x7 : Int), .bool false, .slice ea ne ec, .slice none 0 0, .slice none 0 0] HD8.out.bt (by simp) rfl (by kernel_rfl) rfl ?_; intro ws8 hb ho; (have HA8 := Lib.hid (HD8.out.set hp hb ho)); (have k0 : ws8.cell? ⟨T, 0, none⟩ = some (.int .i64 3) := by rw [hb.cell]; rfl); clear hb ho)
    | (refine wpList_load_by rfl 36 (.tmp 5) rfl _ (.agg #[.int .i64 3, .int .u64 (x1 : Int), .int .u64 (x2 : Int), .int .u64 (x3 : Int), .int .u64 (x4 : Int), .int .u64 (x5 : Int), .int .u64 (x6 : Int), .int .u64 (x7 : Int), .bool false, .slice ea ne ec, .slice none 0 0, .slice none 0 0]) rfl (Blk.loads (P := Try.prog) HA8.out.bt 36 _ Try.underlying36 rfl (by kernel_rfl)) ?_)
    | (refine wpList_store_all rfl 36 (.tmp 4) (.tmp 129) rfl R #[.int .i64 3, .int .u64 (x1 : Int), .int .u64 (x2 : Int), .int .u64 (x3 : Int), .int .u64 (x4 : Int), .int .u64 (x5 : Int), .int .u64 (x6 : Int), .int .u64 (x7 : Int), .bool false, .slice ea ne ec, .slice none 0 0, .slice none 0 0] rfl rfl 36 zeroM HA8.out.br (by kernel_rfl) rfl (by simp [Value.oneCell']) ?_; intro wz hb ho; (have HZ := Lib.hid hb); (have HO := Lib.hid ho); clear hb ho))
  exact bodyPost_ret (v := .agg #[.int .i64 3, .int .u64 (x1 : Int), .int .u64 (x2 : Int), .int .u64 (x3 : Int), .int .u64 (x4 : Int), .int .u64 (x5 : Int), .int .u64 (x6 : Int), .int .u64 (x7 : Int), .bool false, .slice ea ne ec, .slice none 0 0, .slice none 0 0]) (results_cell_row rfl _ _ R 36 #[.int .i64 3, .int .u64 (x1 : Int), .int .u64 (x2 : Int), .int .u64 (x3 : Int), .int .u64 (x4 : Int), .int .u64 (x5 : Int), .int .u64 (x6 : Int), .int .u64 (x7 : Int), .bool false, .slice ea ne ec, .slice none 0 0, .slice none 0 0] (0, 0) _ rfl HZ.out Try.underlying36 rfl (by kernel_rfl)) rfl (HA8.out.fin hp (m' := ⟨3, x1, x2, x3, x4, x5, x6, x7, false, x8, [], []⟩) (ve := (.slice ea ne ec)) (vm := (.slice none 0 0)) (vg := (.slice none 0 0)) (us := us2) HZ.out HO.out HP8.out (by decide) (fun W hW => ⟨⟨⟨by simp, by simp, HX1.out, HX2.out, HX3.out, HX4.out, HX5.out, HX6.out, HX7.out, fun z hz => by obtain ⟨u, hu, rfl⟩ := List.mem_map.1 (HUs.out ▸ hz); exact (hW.2.1.2 u hu).ok, by simp⟩, hW.2.1.1, hW.2.1.2, HUs.out, .inl ⟨rfl, rfl⟩, .inl ⟨rfl, rfl⟩, by have := HUl2.out; omega, by simp, by simp⟩, fun hF => ⟨by rw [HNe.out]; exact fun _ => by have h := hW.2.2.1 hF; rwa [HNe.out] at h, free_nil _ _ _, free_nil _ _ _, hW.2.2.2 hF⟩⟩))

set_option maxHeartbeats 8000000 in
set_option maxRecDepth 100000 in
theorem walk_4 (hp : HandP H t v r fo fn ft fe G B z I F) {w : World} {U : Nat → Prop} {l q0 : List UInt8} (X : Nat → Prop) (m : Mg) (ve vm vg : Value) (us : List EE) (hI : I w U l) (hX : ∀ k, X k → k < w.heap.size) (hm : Stay w (fun k => U k ∨ X k) B (fun W => MHas W m ve vm vg us)) (hl : z l ≤ 100000000) (hr0 : H.octet (m.k % 256).toNat l = .ok (4, q0)) :
    Calls Try.prog 37 #[.iface t v, .agg (mgC m ve vm vg)] w (HEnd 1000000 z I U l w (MsgMath.walkH H m l) (toldMsg F X B)) := by
  obtain ⟨a, ca, rfl⟩ := hm.now.els.form
  obtain ⟨b, cb, rfl⟩ := hm.now.ms.shape
  obtain ⟨d, cd, rfl⟩ := hm.now.gs.shape
  obtain ⟨na, hna⟩ : ∃ n, n = us.length := ⟨_, rfl⟩
  obtain ⟨nb, hnb⟩ : ∃ n, n = m.m.length := ⟨_, rfl⟩
  obtain ⟨nd, hnd⟩ : ∃ n, n = m.g.length := ⟨_, rfl⟩
  rw [← hna, ← hnb, ← hnd] at hm ⊢
  have HOk := Lib.hid hm.now.ok
  have HEn := Lib.hid hm.now.ents
  have HUl := Lib.hid hm.now.ul
  have HMl := Lib.hid hm.now.ml
  have HGl := Lib.hid hm.now.gl
  have HL := Lib.hid hl
  have mo := hp.mo
  have eo := hp.eo
  have mn := hp.mn
  have en := hp.en
  have mt := hp.mt
  have et := hp.et
  obtain ⟨w0, hw0⟩ : ∃ w0, w0 = (w.alloc (.cells (mgC m (.slice a na ca) (.slice b nb cb) (.slice d nd cd)) 36)).alloc (.cells zeroM 36) := ⟨_, rfl⟩
  have HS0 := Lib.hid (walkStart hp hI hX hm hw0)
  have HW0 := Lib.hid hw0
  obtain ⟨c0, hc0⟩ : ∃ c0, c0 = (m.k % 256).toNat := ⟨_, rfl⟩
  have hcv := conv_kind m.k c0 hc0
  have hc256 : c0 < 256 := by omega
  rw [← hc0] at hr0
  have hcb : ∀ W, (convert 5 3 (.int .u8 4)).run Try.prog W = .ok (.int .i64 4) W := fun W => conv_byte 4 (by decide) W
  have HR0 := Lib.hid hr0
  have HP0 := Lib.hid (show MsgMath.walkH H m l = MsgMath.bindP (MsgMath.withinH H m.f 1 7) (fun f => MsgMath.bindP (MsgMath.withinH H m.o 1 7) fun o => MsgMath.bindP (MsgMath.withinH H m.t 1 MsgMath.MT) fun t => MsgMath.bodyH H 4 f o t m) q0 by rw [MsgMath.walkH, ← hc0, MsgMath.bindP_ok hr0, if_pos (by decide)])
  clear hna hnb hnd hI hX hm hl hw0 hr0 hc0
  simp only [mgC]
  go_enter Try.func37, Try.ntmps37
  go_wp2_with fail
  have e0 : w0 = (w.alloc (.cells #[.int .i64 m.k, .int .u64 (m.f : Int), .int .u64 (m.o : Int), .int .u64 (m.t : Int), .int .u64 (m.i : Int), .int .u64 (m.l : Int), .int .u64 (m.c : Int), .int .u64 (m.s : Int), .bool m.y, .slice a na ca, .slice b nb cb, .slice d nd cd] 36)).alloc (.cells #[.int .i64 0, .int .u64 0, .int .u64 0, .int .u64 0, .int .u64 0, .int .u64 0, .int .u64 0, .int .u64 0, .bool false, .slice none 0 0, .slice none 0 0, .slice none 0 0] 36) := HW0.out
  rw [← e0]
  clear e0 HW0
  refine (hp.octet _ HS0.out.hand hc256 (by have := HS0.out.ll; have := HL.out; omega)).mono ?_
  intro e w1 h
  obtain ⟨y, U1, rfl, ho, ⟨rfl, -⟩, hI1, hU1, hq⟩ := h.ok HR0.out
  have HS1 := Lib.hid (HS0.out.call ho hI1 hU1 hq)
  clear h ho hI1 hU1 hq HS0 HR0 hcv hc256
  go_wp2_with (refine wpList_store_all rfl 36 (.tmp 5) (.tmp 12) rfl w1.heap.size #[.int .i64 4, .int .u64 0, .int .u64 0, .int .u64 0, .int .u64 0, .int .u64 0, .int .u64 0, .int .u64 0, .bool false, .slice none 0 0, .slice none 0 0, .slice none 0 0] rfl rfl 36 zeroM (Blk.new w1 36 zeroM) (by kernel_rfl) rfl (by simp [Value.oneCell']) ?_; intro w2 hb ho; (have HA0 := Lib.hid (HS1.out.told hp hb ho)); (have k0 : w2.cell? ⟨w1.heap.size, 0, none⟩ = some (.int .i64 4) := by rw [hb.cell]; rfl); clear hb ho)
  refine (mask_yes 3 _).mono ?_
  rintro e w3 ⟨rfl, rfl⟩
  obtain ⟨T, hT⟩ : ∃ T, T = w1.heap.size := ⟨_, rfl⟩
  obtain ⟨R, hR⟩ : ∃ R, R = w.heap.size + 1 := ⟨_, rfl⟩
  obtain ⟨M, hM⟩ : ∃ M, M = w.heap.size := ⟨_, rfl⟩
  rw [← hT, ← hR, ← hM] at HA0
  rw [← hT] at k0
  rw [← hT, ← hR, ← hM]
  clear hT hR hM HS1 hcb mo eo
  have kn : w3.cell? ⟨M, 1, none⟩ = some (.int .u64 (m.f : Int)) := by rw [HA0.out.bm.cell]; rfl
  cases hr1 : MsgMath.withinH H m.f 1 7 q0 with
  | error c =>
    have HE := Lib.hid (HP0.out.trans (MsgMath.bindP_err hr1))
    have HR := Lib.hid hr1
    clear hr1
    go_wp2_with fail
    refine (within_any hp m.f 1 7 HA0.out.hand HOk.out.f (by have := HA0.out.ll; have := HL.out; omega)).mono ?_
    intro e w4 h
    obtain ⟨ho, hc, rfl⟩ := h.err HR.out
    exact ⟨rfl, HA0.out.lost HE.out ho hc⟩
  | ok pr =>
  obtain ⟨x1, q1⟩ := pr
  have hp1 := HP0.out.trans (MsgMath.bindP_ok hr1)
  try dsimp only at hp1
  have HP1 := Lib.hid hp1
  have HR1 := Lib.hid hr1
  clear hp1 hr1 HP0
  go_wp2_with fail
  refine (within_any hp m.f 1 7 HA0.out.hand HOk.out.f (by have := HA0.out.ll; have := HL.out; omega)).mono ?_
  intro e wc1 h
  obtain ⟨y1, U11, rfl, ho1, hv1, hI1, hU1, hq1⟩ := h.ok HR1.out
  have HC1 := Lib.hid (HA0.out.call ho1 hI1 hU1 hq1)
  obtain ⟨rfl, hx1, hlo1, hhi1⟩ := hv1
  have HX1 := Lib.hid (show x1 < 18446744073709551616 from hx1)
  clear hx1 hlo1 hhi1
  clear h ho1 hI1 hU1 hq1 HR1 kn k0 HA0
  go_wp2_with (refine wpList_store_fld rfl 31 (.tmp 26) (.tmp 25) rfl T 1 (.int .u64 (x1 : Int)) rfl rfl 36 #[.int .i64 4, .int .u64 0, .int .u64 0, .int .u64 0, .int .u64 0, .int .u64 0, .int .u64 0, .int .u64 0, .bool false, .slice none 0 0, .slice none 0 0, .slice none 0 0] #[.int .i64 4, .int .u64 (x1 : Int), .int .u64 0, .int .u64 0, .int .u64 0, .int .u64 0, .int .u64 0, .int .u64 0, .bool false, .slice none 0 0, .slice none 0 0, .slice none 0 0] HC1.out.bt (by simp) rfl (by kernel_rfl) rfl ?_; intro ws1 hb ho; (have HA1 := Lib.hid (HC1.out.set hp hb ho)); (have kn : ws1.cell? ⟨M, 2, none⟩ = some (.int .u64 (m.o : Int)) := by rw [HA1.out.bm.cell]; rfl); (have k0 : ws1.cell? ⟨T, 0, none⟩ = some (.int .i64 4) := by rw [hb.cell]; rfl); clear hb ho)
  cases hr2 : MsgMath.withinH H m.o 1 7 q1 with
  | error c =>
    have HE := Lib.hid (HP1.out.trans (MsgMath.bindP_err hr2))
    have HR := Lib.hid hr2
    clear hr2
    go_wp2_with fail
    refine (within_any hp m.o 1 7 HA1.out.hand HOk.out.o (by have := HA1.out.ll; have := HL.out; omega)).mono ?_
    intro e w4 h
    obtain ⟨ho, hc, rfl⟩ := h.err HR.out
    exact ⟨rfl, HA1.out.lost HE.out ho hc⟩
  | ok pr =>
  obtain ⟨x2, q2⟩ := pr
  have hp2 := HP1.out.trans (MsgMath.bindP_ok hr2)
  try dsimp only at hp2
  have HP2 := Lib.hid hp2
  have HR2 := Lib.hid hr2
  clear hp2 hr2 HP1
  go_wp2_with fail
  refine (within_any hp m.o 1 7 HA1.out.hand HOk.out.o (by have := HA1.out.ll; have := HL.out; omega)).mono ?_
  intro e wc2 h
  obtain ⟨y2, U12, rfl, ho2, hv2, hI2, hU2, hq2⟩ := h.ok HR2.out
  have HC2 := Lib.hid (HA1.out.call ho2 hI2 hU2 hq2)
  obtain ⟨rfl, hx2, hlo2, hhi2⟩ := hv2
  have HX2 := Lib.hid (show x2 < 18446744073709551616 from hx2)
  clear hx2 hlo2 hhi2
  clear h ho2 hI2 hU2 hq2 HR2 kn k0 HA1
  go_wp2_with (refine wpList_store_fld rfl 31 (.tmp 31) (.tmp 30) rfl T 2 (.int .u64 (x2 : Int)) rfl rfl 36 #[.int .i64 4, .int .u64 (x1 : Int), .int .u64 0, .int .u64 0, .int .u64 0, .int .u64 0, .int .u64 0, .int .u64 0, .bool false, .slice none 0 0, .slice none 0 0, .slice none 0 0] #[.int .i64 4, .int .u64 (x1 : Int), .int .u64 (x2 : Int), .int .u64 0, .int .u64 0, .int .u64 0, .int .u64 0, .int .u64 0, .bool false, .slice none 0 0, .slice none 0 0, .slice none 0 0] HC2.out.bt (by simp) rfl (by kernel_rfl) rfl ?_; intro ws2 hb ho; (have HA2 := Lib.hid (HC2.out.set hp hb ho)); (have kn : ws2.cell? ⟨M, 3, none⟩ = some (.int .u64 (m.t : Int)) := by rw [HA2.out.bm.cell]; rfl); (have k0 : ws2.cell? ⟨T, 0, none⟩ = some (.int .i64 4) := by rw [hb.cell]; rfl); clear hb ho)
  cases hr3 : MsgMath.withinH H m.t 1 MsgMath.MT q2 with
  | error c =>
    have HE := Lib.hid (HP2.out.trans (MsgMath.bindP_err hr3))
    have HR := Lib.hid hr3
    clear hr3
    go_wp2_with fail
    refine (within_any hp m.t 1 MsgMath.MT HA2.out.hand HOk.out.t (by have := HA2.out.ll; have := HL.out; omega)).mono ?_
    intro e w4 h
    obtain ⟨ho, hc, rfl⟩ := h.err HR.out
    exact ⟨rfl, HA2.out.lost HE.out ho hc⟩
  | ok pr =>
  obtain ⟨x3, q3⟩ := pr
  have hp3 := HP2.out.trans (MsgMath.bindP_ok hr3)
  try dsimp only at hp3
  rw [MsgMath.bodyH, if_neg (by decide), if_neg (by decide), if_neg (by decide), if_pos rfl] at hp3
  have HP3 := Lib.hid hp3
  have HR3 := Lib.hid hr3
  clear hp3 hr3 HP2
  go_wp2_with fail
  refine (within_any hp m.t 1 MsgMath.MT HA2.out.hand HOk.out.t (by have := HA2.out.ll; have := HL.out; omega)).mono ?_
  intro e wc3 h
  obtain ⟨y3, U13, rfl, ho3, hv3, hI3, hU3, hq3⟩ := h.ok HR3.out
  have HC3 := Lib.hid (HA2.out.call ho3 hI3 hU3 hq3)
  obtain ⟨rfl, hx3, hlo3, hhi3⟩ := hv3
  have HX3 := Lib.hid (show x3 < 18446744073709551616 from hx3)
  clear hx3 hlo3 hhi3
  clear h ho3 hI3 hU3 hq3 HR3 kn k0 HA2
  go_wp2_with (refine wpList_store_fld rfl 31 (.tmp 36) (.tmp 35) rfl T 3 (.int .u64 (x3 : Int)) rfl rfl 36 #[.int .i64 4, .int .u64 (x1 : Int), .int .u64 (x2 : Int), .int .u64 0, .int .u64 0, .int .u64 0, .int .u64 0, .int .u64 0, .bool false, .slice none 0 0, .slice none 0 0, .slice none 0 0] #[.int .i64 4, .int .u64 (x1 : Int), .int .u64 (x2 : Int), .int .u64 (x3 : Int), .int .u64 0, .int .u64 0, .int .u64 0, .int .u64 0, .bool false, .slice none 0 0, .slice none 0 0, .slice none 0 0] HC3.out.bt (by simp) rfl (by kernel_rfl) rfl ?_; intro ws3 hb ho; (have HA3 := Lib.hid (HC3.out.set hp hb ho)); (have kn : ws3.cell? ⟨M, 8, none⟩ = some (.bool m.y) := by rw [HA3.out.bm.cell]; rfl); (have k0 : ws3.cell? ⟨T, 0, none⟩ = some (.int .i64 4) := by rw [hb.cell]; rfl); clear hb ho)
  cases hr4 : MsgMath.yesH H m.y q3 with
  | error c =>
    have HE := Lib.hid (HP3.out.trans (MsgMath.bindP_err hr4))
    have HR := Lib.hid hr4
    clear hr4
    go_wp2_with fail
    refine (yes_any hp m.y HA3.out.hand (by have := HA3.out.ll; have := HL.out; omega)).mono ?_
    intro e w4 h
    obtain ⟨ho, hc, rfl⟩ := h.err HR.out
    exact ⟨rfl, HA3.out.lost HE.out ho hc⟩
  | ok pr =>
  obtain ⟨x4, q4⟩ := pr
  have hp4 := HP3.out.trans (MsgMath.bindP_ok hr4)
  try dsimp only at hp4
  have HP4 := Lib.hid hp4
  have HR4 := Lib.hid hr4
  clear hp4 hr4 HP3
  go_wp2_with fail
  refine (yes_any hp m.y HA3.out.hand (by have := HA3.out.ll; have := HL.out; omega)).mono ?_
  intro e wc4 h
  obtain ⟨y4, U14, rfl, ho4, hv4, hI4, hU4, hq4⟩ := h.ok HR4.out
  have HC4 := Lib.hid (HA3.out.call ho4 hI4 hU4 hq4)
  obtain rfl := hv4
  clear h ho4 hI4 hU4 hq4 HR4 kn k0 HA3
  go_wp2_with (refine wpList_store_fld rfl 4 (.tmp 91) (.tmp 90) rfl T 8 (.bool x4) rfl rfl 36 #[.int .i64 4, .int .u64 (x1 : Int), .int .u64 (x2 : Int), .int .u64 (x3 : Int), .int .u64 0, .int .u64 0, .int .u64 0, .int .u64 0, .bool false, .slice none 0 0, .slice none 0 0, .slice none 0 0] #[.int .i64 4, .int .u64 (x1 : Int), .int .u64 (x2 : Int), .int .u64 (x3 : Int), .int .u64 0, .int .u64 0, .int .u64 0, .int .u64 0, .bool x4, .slice none 0 0, .slice none 0 0, .slice none 0 0] HC4.out.bt (by simp) rfl (by kernel_rfl) rfl ?_; intro ws4 hb ho; (have HA4 := Lib.hid (HC4.out.set hp hb ho)); (have kn : ws4.cell? ⟨M, 4, none⟩ = some (.int .u64 (m.i : Int)) := by rw [HA4.out.bm.cell]; rfl); (have k0 : ws4.cell? ⟨T, 0, none⟩ = some (.int .i64 4) := by rw [hb.cell]; rfl); clear hb ho)
  cases hr5 : MsgMath.withinH H m.i 0 MsgMath.MT q4 with
  | error c =>
    have HE := Lib.hid (HP4.out.trans (MsgMath.bindP_err hr5))
    have HR := Lib.hid hr5
    clear hr5
    go_wp2_with fail
    refine (place_any hp m.i HA4.out.hand HOk.out.i (by have := HA4.out.ll; have := HL.out; omega)).mono ?_
    intro e w4 h
    obtain ⟨ho, hc, rfl⟩ := h.err HR.out
    exact ⟨rfl, HA4.out.lost HE.out ho hc⟩
  | ok pr =>
  obtain ⟨x5, q5⟩ := pr
  have hp5 := HP4.out.trans (MsgMath.bindP_ok hr5)
  try dsimp only at hp5
  have HP5 := Lib.hid hp5
  have HR5 := Lib.hid hr5
  clear hp5 hr5 HP4
  go_wp2_with fail
  refine (place_any hp m.i HA4.out.hand HOk.out.i (by have := HA4.out.ll; have := HL.out; omega)).mono ?_
  intro e wc5 h
  obtain ⟨y5, U15, rfl, ho5, hv5, hI5, hU5, hq5⟩ := h.ok HR5.out
  have HC5 := Lib.hid (HA4.out.call ho5 hI5 hU5 hq5)
  obtain ⟨rfl, hx5, hlo5, hhi5⟩ := hv5
  have HX5 := Lib.hid (show x5 < 18446744073709551616 from hx5)
  clear hx5 hlo5 hhi5
  clear h ho5 hI5 hU5 hq5 HR5 kn k0 HA4
  go_wp2_with (refine wpList_store_fld rfl 31 (.tmp 96) (.tmp 95) rfl T 4 (.int .u64 (x5 : Int)) rfl rfl 36 #[.int .i64 4, .int .u64 (x1 : Int), .int .u64 (x2 : Int), .int .u64 (x3 : Int), .int .u64 0, .int .u64 0, .int .u64 0, .int .u64 0, .bool x4, .slice none 0 0, .slice none 0 0, .slice none 0 0] #[.int .i64 4, .int .u64 (x1 : Int), .int .u64 (x2 : Int), .int .u64 (x3 : Int), .int .u64 (x5 : Int), .int .u64 0, .int .u64 0, .int .u64 0, .bool x4, .slice none 0 0, .slice none 0 0, .slice none 0 0] HC5.out.bt (by simp) rfl (by kernel_rfl) rfl ?_; intro ws5 hb ho; (have HA5 := Lib.hid (HC5.out.set hp hb ho)); (have kn : ws5.cell? ⟨M, 7, none⟩ = some (.int .u64 (m.s : Int)) := by rw [HA5.out.bm.cell]; rfl); (have k0 : ws5.cell? ⟨T, 0, none⟩ = some (.int .i64 4) := by rw [hb.cell]; rfl); clear hb ho)
  cases hr6 : H.number m.s q5 with
  | error c =>
    have HE := Lib.hid (HP5.out.trans (MsgMath.bindP_err hr6))
    have HR := Lib.hid hr6
    clear hr6
    go_wp2_with fail
    refine (hp.number m.s HA5.out.hand HOk.out.s (by have := HA5.out.ll; have := HL.out; omega)).mono ?_
    intro e w4 h
    obtain ⟨ho, hc, rfl⟩ := h.err HR.out
    exact ⟨rfl, HA5.out.lost HE.out ho hc⟩
  | ok pr =>
  obtain ⟨x6, q6⟩ := pr
  have hp6 := HP5.out.trans (MsgMath.bindP_ok hr6)
  try dsimp only at hp6
  have HP6 := Lib.hid hp6
  have HR6 := Lib.hid hr6
  clear hp6 hr6 HP5
  go_wp2_with fail
  refine (hp.number m.s HA5.out.hand HOk.out.s (by have := HA5.out.ll; have := HL.out; omega)).mono ?_
  intro e wc6 h
  obtain ⟨y6, U16, rfl, ho6, hv6, hI6, hU6, hq6⟩ := h.ok HR6.out
  have HC6 := Lib.hid (HA5.out.call ho6 hI6 hU6 hq6)
  obtain ⟨rfl, hx6⟩ := hv6
  have HX6 := Lib.hid (show x6 < 18446744073709551616 from hx6)
  clear hx6
  clear h ho6 hI6 hU6 hq6 HR6 kn k0 HA5
  go_wp2_with (first
    | (refine wpList_store_fld rfl 31 (.tmp 101) (.tmp 100) rfl T 7 (.int .u64 (x6 : Int)) rfl rfl 36 #[.int .i64 4, .int .u64 (x1 : Int), .int .u64 (x2 : Int), .int .u64 (x3 : Int), .int .u64 (x5 : Int), .int .u64 0, .int .u64 0, .int .u64 0, .bool x4, .slice none 0 0, .slice none 0 0, .slice none 0 0] #[.int .i64 4, .int .u64 (x1 : Int), .int .u64 (x2 : Int), .int .u64 (x3 : Int), .int .u64 (x5 : Int), .int .u64 0, .int .u64 0, .int .u64 (x6 : Int), .bool x4, .slice none 0 0, .slice none 0 0, .slice none 0 0] HC6.out.bt (by simp) rfl (by kernel_rfl) rfl ?_; intro ws6 hb ho; (have HA6 := Lib.hid (HC6.out.set hp hb ho)); (have k0 : ws6.cell? ⟨T, 0, none⟩ = some (.int .i64 4) := by rw [hb.cell]; rfl); clear hb ho)
    | (refine wpList_load_by rfl 36 (.tmp 5) rfl _ (.agg #[.int .i64 4, .int .u64 (x1 : Int), .int .u64 (x2 : Int), .int .u64 (x3 : Int), .int .u64 (x5 : Int), .int .u64 0, .int .u64 0, .int .u64 (x6 : Int), .bool x4, .slice none 0 0, .slice none 0 0, .slice none 0 0]) rfl (Blk.loads (P := Try.prog) HA6.out.bt 36 _ Try.underlying36 rfl (by kernel_rfl)) ?_)
    | (refine wpList_store_all rfl 36 (.tmp 4) (.tmp 129) rfl R #[.int .i64 4, .int .u64 (x1 : Int), .int .u64 (x2 : Int), .int .u64 (x3 : Int), .int .u64 (x5 : Int), .int .u64 0, .int .u64 0, .int .u64 (x6 : Int), .bool x4, .slice none 0 0, .slice none 0 0, .slice none 0 0] rfl rfl 36 zeroM HA6.out.br (by kernel_rfl) rfl (by simp [Value.oneCell']) ?_; intro wz hb ho; (have HZ := Lib.hid hb); (have HO := Lib.hid ho); clear hb ho))
  exact bodyPost_ret (v := .agg #[.int .i64 4, .int .u64 (x1 : Int), .int .u64 (x2 : Int), .int .u64 (x3 : Int), .int .u64 (x5 : Int), .int .u64 0, .int .u64 0, .int .u64 (x6 : Int), .bool x4, .slice none 0 0, .slice none 0 0, .slice none 0 0]) (results_cell_row rfl _ _ R 36 #[.int .i64 4, .int .u64 (x1 : Int), .int .u64 (x2 : Int), .int .u64 (x3 : Int), .int .u64 (x5 : Int), .int .u64 0, .int .u64 0, .int .u64 (x6 : Int), .bool x4, .slice none 0 0, .slice none 0 0, .slice none 0 0] (0, 0) _ rfl HZ.out Try.underlying36 rfl (by kernel_rfl)) rfl (HA6.out.fin hp (m' := ⟨4, x1, x2, x3, x5, 0, 0, x6, x4, [], [], []⟩) (ve := (.slice none 0 0)) (vm := (.slice none 0 0)) (vg := (.slice none 0 0)) (us := []) HZ.out HO.out HP6.out (by decide) (fun W _ => ⟨⟨⟨by simp, by simp, HX1.out, HX2.out, HX3.out, HX5.out, (by simp), (by simp), HX6.out, by simp, by simp⟩, .inl ⟨rfl, rfl⟩, fun u hu => absurd hu List.not_mem_nil, rfl, .inl ⟨rfl, rfl⟩, .inl ⟨rfl, rfl⟩, by simp, by simp, by simp⟩, fun _ => mfree_nil _ _⟩))

set_option maxHeartbeats 8000000 in
set_option maxRecDepth 100000 in
theorem walk_5 (hp : HandP H t v r fo fn ft fe G B z I F) {w : World} {U : Nat → Prop} {l q0 : List UInt8} (X : Nat → Prop) (m : Mg) (ve vm vg : Value) (us : List EE) (hI : I w U l) (hX : ∀ k, X k → k < w.heap.size) (hm : Stay w (fun k => U k ∨ X k) B (fun W => MHas W m ve vm vg us)) (hl : z l ≤ 100000000) (hr0 : H.octet (m.k % 256).toNat l = .ok (5, q0)) :
    Calls Try.prog 37 #[.iface t v, .agg (mgC m ve vm vg)] w (HEnd 1000000 z I U l w (MsgMath.walkH H m l) (toldMsg F X B)) := by
  obtain ⟨a, ca, rfl⟩ := hm.now.els.form
  obtain ⟨b, cb, rfl⟩ := hm.now.ms.shape
  obtain ⟨d, cd, rfl⟩ := hm.now.gs.shape
  obtain ⟨na, hna⟩ : ∃ n, n = us.length := ⟨_, rfl⟩
  obtain ⟨nb, hnb⟩ : ∃ n, n = m.m.length := ⟨_, rfl⟩
  obtain ⟨nd, hnd⟩ : ∃ n, n = m.g.length := ⟨_, rfl⟩
  rw [← hna, ← hnb, ← hnd] at hm ⊢
  have HOk := Lib.hid hm.now.ok
  have HEn := Lib.hid hm.now.ents
  have HUl := Lib.hid hm.now.ul
  have HMl := Lib.hid hm.now.ml
  have HGl := Lib.hid hm.now.gl
  have HL := Lib.hid hl
  have mo := hp.mo
  have eo := hp.eo
  have mn := hp.mn
  have en := hp.en
  have mt := hp.mt
  have et := hp.et
  obtain ⟨w0, hw0⟩ : ∃ w0, w0 = (w.alloc (.cells (mgC m (.slice a na ca) (.slice b nb cb) (.slice d nd cd)) 36)).alloc (.cells zeroM 36) := ⟨_, rfl⟩
  have HS0 := Lib.hid (walkStart hp hI hX hm hw0)
  have HW0 := Lib.hid hw0
  obtain ⟨c0, hc0⟩ : ∃ c0, c0 = (m.k % 256).toNat := ⟨_, rfl⟩
  have hcv := conv_kind m.k c0 hc0
  have hc256 : c0 < 256 := by omega
  rw [← hc0] at hr0
  have hcb : ∀ W, (convert 5 3 (.int .u8 5)).run Try.prog W = .ok (.int .i64 5) W := fun W => conv_byte 5 (by decide) W
  have HR0 := Lib.hid hr0
  have HP0 := Lib.hid (show MsgMath.walkH H m l = MsgMath.bindP (MsgMath.withinH H m.f 1 7) (fun f => MsgMath.bindP (MsgMath.withinH H m.o 1 7) fun o => MsgMath.bindP (MsgMath.withinH H m.t 1 MsgMath.MT) fun t => MsgMath.bodyH H 5 f o t m) q0 by rw [MsgMath.walkH, ← hc0, MsgMath.bindP_ok hr0, if_pos (by decide)])
  clear hna hnb hnd hI hX hm hl hw0 hr0 hc0
  simp only [mgC]
  go_enter Try.func37, Try.ntmps37
  go_wp2_with fail
  have e0 : w0 = (w.alloc (.cells #[.int .i64 m.k, .int .u64 (m.f : Int), .int .u64 (m.o : Int), .int .u64 (m.t : Int), .int .u64 (m.i : Int), .int .u64 (m.l : Int), .int .u64 (m.c : Int), .int .u64 (m.s : Int), .bool m.y, .slice a na ca, .slice b nb cb, .slice d nd cd] 36)).alloc (.cells #[.int .i64 0, .int .u64 0, .int .u64 0, .int .u64 0, .int .u64 0, .int .u64 0, .int .u64 0, .int .u64 0, .bool false, .slice none 0 0, .slice none 0 0, .slice none 0 0] 36) := HW0.out
  rw [← e0]
  clear e0 HW0
  refine (hp.octet _ HS0.out.hand hc256 (by have := HS0.out.ll; have := HL.out; omega)).mono ?_
  intro e w1 h
  obtain ⟨y, U1, rfl, ho, ⟨rfl, -⟩, hI1, hU1, hq⟩ := h.ok HR0.out
  have HS1 := Lib.hid (HS0.out.call ho hI1 hU1 hq)
  clear h ho hI1 hU1 hq HS0 HR0 hcv hc256
  go_wp2_with (refine wpList_store_all rfl 36 (.tmp 5) (.tmp 12) rfl w1.heap.size #[.int .i64 5, .int .u64 0, .int .u64 0, .int .u64 0, .int .u64 0, .int .u64 0, .int .u64 0, .int .u64 0, .bool false, .slice none 0 0, .slice none 0 0, .slice none 0 0] rfl rfl 36 zeroM (Blk.new w1 36 zeroM) (by kernel_rfl) rfl (by simp [Value.oneCell']) ?_; intro w2 hb ho; (have HA0 := Lib.hid (HS1.out.told hp hb ho)); (have k0 : w2.cell? ⟨w1.heap.size, 0, none⟩ = some (.int .i64 5) := by rw [hb.cell]; rfl); clear hb ho)
  refine (mask_yes 3 _).mono ?_
  rintro e w3 ⟨rfl, rfl⟩
  obtain ⟨T, hT⟩ : ∃ T, T = w1.heap.size := ⟨_, rfl⟩
  obtain ⟨R, hR⟩ : ∃ R, R = w.heap.size + 1 := ⟨_, rfl⟩
  obtain ⟨M, hM⟩ : ∃ M, M = w.heap.size := ⟨_, rfl⟩
  rw [← hT, ← hR, ← hM] at HA0
  rw [← hT] at k0
  rw [← hT, ← hR, ← hM]
  clear hT hR hM HS1 hcb mo eo
  have kn : w3.cell? ⟨M, 1, none⟩ = some (.int .u64 (m.f : Int)) := by rw [HA0.out.bm.cell]; rfl
  cases hr1 : MsgMath.withinH H m.f 1 7 q0 with
  | error c =>
    have HE := Lib.hid (HP0.out.trans (MsgMath.bindP_err hr1))
    have HR := Lib.hid hr1
    clear hr1
    go_wp2_with fail
    refine (within_any hp m.f 1 7 HA0.out.hand HOk.out.f (by have := HA0.out.ll; have := HL.out; omega)).mono ?_
    intro e w4 h
    obtain ⟨ho, hc, rfl⟩ := h.err HR.out
    exact ⟨rfl, HA0.out.lost HE.out ho hc⟩
  | ok pr =>
  obtain ⟨x1, q1⟩ := pr
  have hp1 := HP0.out.trans (MsgMath.bindP_ok hr1)
  try dsimp only at hp1
  have HP1 := Lib.hid hp1
  have HR1 := Lib.hid hr1
  clear hp1 hr1 HP0
  go_wp2_with fail
  refine (within_any hp m.f 1 7 HA0.out.hand HOk.out.f (by have := HA0.out.ll; have := HL.out; omega)).mono ?_
  intro e wc1 h
  obtain ⟨y1, U11, rfl, ho1, hv1, hI1, hU1, hq1⟩ := h.ok HR1.out
  have HC1 := Lib.hid (HA0.out.call ho1 hI1 hU1 hq1)
  obtain ⟨rfl, hx1, hlo1, hhi1⟩ := hv1
  have HX1 := Lib.hid (show x1 < 18446744073709551616 from hx1)
  clear hx1 hlo1 hhi1
  clear h ho1 hI1 hU1 hq1 HR1 kn k0 HA0
  go_wp2_with (refine wpList_store_fld rfl 31 (.tmp 26) (.tmp 25) rfl T 1 (.int .u64 (x1 : Int)) rfl rfl 36 #[.int .i64 5, .int .u64 0, .int .u64 0, .int .u64 0, .int .u64 0, .int .u64 0, .int .u64 0, .int .u64 0, .bool false, .slice none 0 0, .slice none 0 0, .slice none 0 0] #[.int .i64 5, .int .u64 (x1 : Int), .int .u64 0, .int .u64 0, .int .u64 0, .int .u64 0, .int .u64 0, .int .u64 0, .bool false, .slice none 0 0, .slice none 0 0, .slice none 0 0] HC1.out.bt (by simp) rfl (by kernel_rfl) rfl ?_; intro ws1 hb ho; (have HA1 := Lib.hid (HC1.out.set hp hb ho)); (have kn : ws1.cell? ⟨M, 2, none⟩ = some (.int .u64 (m.o : Int)) := by rw [HA1.out.bm.cell]; rfl); (have k0 : ws1.cell? ⟨T, 0, none⟩ = some (.int .i64 5) := by rw [hb.cell]; rfl); clear hb ho)
  cases hr2 : MsgMath.withinH H m.o 1 7 q1 with
  | error c =>
    have HE := Lib.hid (HP1.out.trans (MsgMath.bindP_err hr2))
    have HR := Lib.hid hr2
    clear hr2
    go_wp2_with fail
    refine (within_any hp m.o 1 7 HA1.out.hand HOk.out.o (by have := HA1.out.ll; have := HL.out; omega)).mono ?_
    intro e w4 h
    obtain ⟨ho, hc, rfl⟩ := h.err HR.out
    exact ⟨rfl, HA1.out.lost HE.out ho hc⟩
  | ok pr =>
  obtain ⟨x2, q2⟩ := pr
  have hp2 := HP1.out.trans (MsgMath.bindP_ok hr2)
  try dsimp only at hp2
  have HP2 := Lib.hid hp2
  have HR2 := Lib.hid hr2
  clear hp2 hr2 HP1
  go_wp2_with fail
  refine (within_any hp m.o 1 7 HA1.out.hand HOk.out.o (by have := HA1.out.ll; have := HL.out; omega)).mono ?_
  intro e wc2 h
  obtain ⟨y2, U12, rfl, ho2, hv2, hI2, hU2, hq2⟩ := h.ok HR2.out
  have HC2 := Lib.hid (HA1.out.call ho2 hI2 hU2 hq2)
  obtain ⟨rfl, hx2, hlo2, hhi2⟩ := hv2
  have HX2 := Lib.hid (show x2 < 18446744073709551616 from hx2)
  clear hx2 hlo2 hhi2
  clear h ho2 hI2 hU2 hq2 HR2 kn k0 HA1
  go_wp2_with (refine wpList_store_fld rfl 31 (.tmp 31) (.tmp 30) rfl T 2 (.int .u64 (x2 : Int)) rfl rfl 36 #[.int .i64 5, .int .u64 (x1 : Int), .int .u64 0, .int .u64 0, .int .u64 0, .int .u64 0, .int .u64 0, .int .u64 0, .bool false, .slice none 0 0, .slice none 0 0, .slice none 0 0] #[.int .i64 5, .int .u64 (x1 : Int), .int .u64 (x2 : Int), .int .u64 0, .int .u64 0, .int .u64 0, .int .u64 0, .int .u64 0, .bool false, .slice none 0 0, .slice none 0 0, .slice none 0 0] HC2.out.bt (by simp) rfl (by kernel_rfl) rfl ?_; intro ws2 hb ho; (have HA2 := Lib.hid (HC2.out.set hp hb ho)); (have kn : ws2.cell? ⟨M, 3, none⟩ = some (.int .u64 (m.t : Int)) := by rw [HA2.out.bm.cell]; rfl); (have k0 : ws2.cell? ⟨T, 0, none⟩ = some (.int .i64 5) := by rw [hb.cell]; rfl); clear hb ho)
  cases hr3 : MsgMath.withinH H m.t 1 MsgMath.MT q2 with
  | error c =>
    have HE := Lib.hid (HP2.out.trans (MsgMath.bindP_err hr3))
    have HR := Lib.hid hr3
    clear hr3
    go_wp2_with fail
    refine (within_any hp m.t 1 MsgMath.MT HA2.out.hand HOk.out.t (by have := HA2.out.ll; have := HL.out; omega)).mono ?_
    intro e w4 h
    obtain ⟨ho, hc, rfl⟩ := h.err HR.out
    exact ⟨rfl, HA2.out.lost HE.out ho hc⟩
  | ok pr =>
  obtain ⟨x3, q3⟩ := pr
  have hp3 := HP2.out.trans (MsgMath.bindP_ok hr3)
  try dsimp only at hp3
  rw [MsgMath.bodyH, if_neg (by decide), if_neg (by decide), if_neg (by decide), if_neg (by decide)] at hp3
  have HP3 := Lib.hid hp3
  have HR3 := Lib.hid hr3
  clear hp3 hr3 HP2
  go_wp2_with fail
  refine (within_any hp m.t 1 MsgMath.MT HA2.out.hand HOk.out.t (by have := HA2.out.ll; have := HL.out; omega)).mono ?_
  intro e wc3 h
  obtain ⟨y3, U13, rfl, ho3, hv3, hI3, hU3, hq3⟩ := h.ok HR3.out
  have HC3 := Lib.hid (HA2.out.call ho3 hI3 hU3 hq3)
  obtain ⟨rfl, hx3, hlo3, hhi3⟩ := hv3
  have HX3 := Lib.hid (show x3 < 18446744073709551616 from hx3)
  clear hx3 hlo3 hhi3
  clear h ho3 hI3 hU3 hq3 HR3 kn k0 HA2
  go_wp2_with (refine wpList_store_fld rfl 31 (.tmp 36) (.tmp 35) rfl T 3 (.int .u64 (x3 : Int)) rfl rfl 36 #[.int .i64 5, .int .u64 (x1 : Int), .int .u64 (x2 : Int), .int .u64 0, .int .u64 0, .int .u64 0, .int .u64 0, .int .u64 0, .bool false, .slice none 0 0, .slice none 0 0, .slice none 0 0] #[.int .i64 5, .int .u64 (x1 : Int), .int .u64 (x2 : Int), .int .u64 (x3 : Int), .int .u64 0, .int .u64 0, .int .u64 0, .int .u64 0, .bool false, .slice none 0 0, .slice none 0 0, .slice none 0 0] HC3.out.bt (by simp) rfl (by kernel_rfl) rfl ?_; intro ws3 hb ho; (have HA3 := Lib.hid (HC3.out.set hp hb ho)); (have kn : ws3.cell? ⟨M, 4, none⟩ = some (.int .u64 (m.i : Int)) := by rw [HA3.out.bm.cell]; rfl); (have k0 : ws3.cell? ⟨T, 0, none⟩ = some (.int .i64 5) := by rw [hb.cell]; rfl); clear hb ho)
  cases hr4 : MsgMath.withinH H m.i 0 MsgMath.MT q3 with
  | error c =>
    have HE := Lib.hid (HP3.out.trans (MsgMath.bindP_err hr4))
    have HR := Lib.hid hr4
    clear hr4
    go_wp2_with fail
    refine (place_any hp m.i HA3.out.hand HOk.out.i (by have := HA3.out.ll; have := HL.out; omega)).mono ?_
    intro e w4 h
    obtain ⟨ho, hc, rfl⟩ := h.err HR.out
    exact ⟨rfl, HA3.out.lost HE.out ho hc⟩
  | ok pr =>
  obtain ⟨x4, q4⟩ := pr
  have hp4 := HP3.out.trans (MsgMath.bindP_ok hr4)
  try dsimp only at hp4
  have HP4 := Lib.hid hp4
  have HR4 := Lib.hid hr4
  clear hp4 hr4 HP3
  go_wp2_with fail
  refine (place_any hp m.i HA3.out.hand HOk.out.i (by have := HA3.out.ll; have := HL.out; omega)).mono ?_
  intro e wc4 h
  obtain ⟨y4, U14, rfl, ho4, hv4, hI4, hU4, hq4⟩ := h.ok HR4.out
  have HC4 := Lib.hid (HA3.out.call ho4 hI4 hU4 hq4)
  obtain ⟨rfl, hx4, hlo4, hhi4⟩ := hv4
  have HX4 := Lib.hid (show x4 < 18446744073709551616 from hx4)
  clear hx4 hlo4 hhi4
  clear h ho4 hI4 hU4 hq4 HR4 kn k0 HA3
  go_wp2_with (refine wpList_store_fld rfl 31 (.tmp 108) (.tmp 107) rfl T 4 (.int .u64 (x4 : Int)) rfl rfl 36 #[.int .i64 5, .int .u64 (x1 : Int), .int .u64 (x2 : Int), .int .u64 (x3 : Int), .int .u64 0, .int .u64 0, .int .u64 0, .int .u64 0, .bool false, .slice none 0 0, .slice none 0 0, .slice none 0 0] #[.int .i64 5, .int .u64 (x1 : Int), .int .u64 (x2 : Int), .int .u64 (x3 : Int), .int .u64 (x4 : Int), .int .u64 0, .int .u64 0, .int .u64 0, .bool false, .slice none 0 0, .slice none 0 0, .slice none 0 0] HC4.out.bt (by simp) rfl (by kernel_rfl) rfl ?_; intro ws4 hb ho; (have HA4 := Lib.hid (HC4.out.set hp hb ho)); (have kn : ws4.cell? ⟨M, 5, none⟩ = some (.int .u64 (m.l : Int)) := by rw [HA4.out.bm.cell]; rfl); (have k0 : ws4.cell? ⟨T, 0, none⟩ = some (.int .i64 5) := by rw [hb.cell]; rfl); clear hb ho)
  cases hr5 : MsgMath.withinH H m.l 0 MsgMath.MT q4 with
  | error c =>
    have HE := Lib.hid (HP4.out.trans (MsgMath.bindP_err hr5))
    have HR := Lib.hid hr5
    clear hr5
    go_wp2_with fail
    refine (place_any hp m.l HA4.out.hand HOk.out.l (by have := HA4.out.ll; have := HL.out; omega)).mono ?_
    intro e w4 h
    obtain ⟨ho, hc, rfl⟩ := h.err HR.out
    exact ⟨rfl, HA4.out.lost HE.out ho hc⟩
  | ok pr =>
  obtain ⟨x5, q5⟩ := pr
  have hp5 := HP4.out.trans (MsgMath.bindP_ok hr5)
  try dsimp only at hp5
  have HP5 := Lib.hid hp5
  have HR5 := Lib.hid hr5
  clear hp5 hr5 HP4
  go_wp2_with fail
  refine (place_any hp m.l HA4.out.hand HOk.out.l (by have := HA4.out.ll; have := HL.out; omega)).mono ?_
  intro e wc5 h
  obtain ⟨y5, U15, rfl, ho5, hv5, hI5, hU5, hq5⟩ := h.ok HR5.out
  have HC5 := Lib.hid (HA4.out.call ho5 hI5 hU5 hq5)
  obtain ⟨rfl, hx5, hlo5, hhi5⟩ := hv5
  have HX5 := Lib.hid (show x5 < 18446744073709551616 from hx5)
  clear hx5 hlo5 hhi5
  clear h ho5 hI5 hU5 hq5 HR5 kn k0 HA4
  go_wp2_with (refine wpList_store_fld rfl 31 (.tmp 113) (.tmp 112) rfl T 5 (.int .u64 (x5 : Int)) rfl rfl 36 #[.int .i64 5, .int .u64 (x1 : Int), .int .u64 (x2 : Int), .int .u64 (x3 : Int), .int .u64 (x4 : Int), .int .u64 0, .int .u64 0, .int .u64 0, .bool false, .slice none 0 0, .slice none 0 0, .slice none 0 0] #[.int .i64 5, .int .u64 (x1 : Int), .int .u64 (x2 : Int), .int .u64 (x3 : Int), .int .u64 (x4 : Int), .int .u64 (x5 : Int), .int .u64 0, .int .u64 0, .bool false, .slice none 0 0, .slice none 0 0, .slice none 0 0] HC5.out.bt (by simp) rfl (by kernel_rfl) rfl ?_; intro ws5 hb ho; (have HA5 := Lib.hid (HC5.out.set hp hb ho)); (have kn : ws5.cell? ⟨M, 7, none⟩ = some (.int .u64 (m.s : Int)) := by rw [HA5.out.bm.cell]; rfl); (have k0 : ws5.cell? ⟨T, 0, none⟩ = some (.int .i64 5) := by rw [hb.cell]; rfl); clear hb ho)
  cases hr6 : H.number m.s q5 with
  | error c =>
    have HE := Lib.hid (HP5.out.trans (MsgMath.bindP_err hr6))
    have HR := Lib.hid hr6
    clear hr6
    go_wp2_with fail
    refine (hp.number m.s HA5.out.hand HOk.out.s (by have := HA5.out.ll; have := HL.out; omega)).mono ?_
    intro e w4 h
    obtain ⟨ho, hc, rfl⟩ := h.err HR.out
    exact ⟨rfl, HA5.out.lost HE.out ho hc⟩
  | ok pr =>
  obtain ⟨x6, q6⟩ := pr
  have hp6 := HP5.out.trans (MsgMath.bindP_ok hr6)
  try dsimp only at hp6
  have HP6 := Lib.hid hp6
  have HR6 := Lib.hid hr6
  clear hp6 hr6 HP5
  go_wp2_with fail
  refine (hp.number m.s HA5.out.hand HOk.out.s (by have := HA5.out.ll; have := HL.out; omega)).mono ?_
  intro e wc6 h
  obtain ⟨y6, U16, rfl, ho6, hv6, hI6, hU6, hq6⟩ := h.ok HR6.out
  have HC6 := Lib.hid (HA5.out.call ho6 hI6 hU6 hq6)
  obtain ⟨rfl, hx6⟩ := hv6
  have HX6 := Lib.hid (show x6 < 18446744073709551616 from hx6)
  clear hx6
  clear h ho6 hI6 hU6 hq6 HR6 kn k0 HA5
  go_wp2_with (refine wpList_store_fld rfl 31 (.tmp 118) (.tmp 117) rfl T 7 (.int .u64 (x6 : Int)) rfl rfl 36 #[.int .i64 5, .int .u64 (x1 : Int), .int .u64 (x2 : Int), .int .u64 (x3 : Int), .int .u64 (x4 : Int), .int .u64 (x5 : Int), .int .u64 0, .int .u64 0, .bool false, .slice none 0 0, .slice none 0 0, .slice none 0 0] #[.int .i64 5, .int .u64 (x1 : Int), .int .u64 (x2 : Int), .int .u64 (x3 : Int), .int .u64 (x4 : Int), .int .u64 (x5 : Int), .int .u64 0, .int .u64 (x6 : Int), .bool false, .slice none 0 0, .slice none 0 0, .slice none 0 0] HC6.out.bt (by simp) rfl (by kernel_rfl) rfl ?_; intro ws6 hb ho; (have HA6 := Lib.hid (HC6.out.set hp hb ho)); (have kn : ws6.cell? ⟨M, 10, none⟩ = some (.slice b nb cb) := by rw [HA6.out.bm.cell]; rfl); (have k0 : ws6.cell? ⟨T, 0, none⟩ = some (.int .i64 5) := by rw [hb.cell]; rfl); clear hb ho)
  cases hr7 : MsgMath.membersH H m.m q6 with
  | error c =>
    have HE := Lib.hid (HP6.out.trans (MsgMath.bindP_err hr7))
    have HR := Lib.hid hr7
    clear hr7
    go_wp2_with fail
    refine (hmembers_any hp (fun k => k = T ∨ k = R ∨ X k) (.slice b nb cb) m.m HA6.out.hand HA6.out.xlt (HA6.out.src.imp fun W h => h.ms) HMl.out HOk.out.m (by have := HA6.out.ll; have := HL.out; omega)).mono ?_
    intro e w4 h
    obtain ⟨ho, hc, rfl⟩ := h.err HR.out
    exact ⟨rfl, HA6.out.lost HE.out ho hc⟩
  | ok pr =>
  obtain ⟨x7, q7⟩ := pr
  have hp7 := HP6.out.trans (MsgMath.bindP_ok hr7)
  try dsimp only at hp7
  have HP7 := Lib.hid hp7
  have HR7 := Lib.hid hr7
  clear hp7 hr7 HP6
  go_wp2_with fail
  refine (hmembers_any hp (fun k => k = T ∨ k = R ∨ X k) (.slice b nb cb) m.m HA6.out.hand HA6.out.xlt (HA6.out.src.imp fun W h => h.ms) HMl.out HOk.out.m (by have := HA6.out.ll; have := HL.out; omega)).mono ?_
  intro e wc7 h
  obtain ⟨y7, U17, rfl, ho7, hv7, hI7, hU7, hq7⟩ := h.ok HR7.out
  have HC7 := Lib.hid (HA6.out.call ho7 hI7 hU7 hq7)
  obtain ⟨hst2, hok2, hml2⟩ := hv7
  obtain ⟨mb, mc, rfl⟩ := hst2.now.1.shape
  have HOk2 := Lib.hid hok2
  have HMl2 := Lib.hid hml2
  obtain ⟨nm, hnm⟩ : ∃ nm, nm = x7.length := ⟨_, rfl⟩
  rw [← hnm] at hst2 ⊢
  have HD7 := Lib.hid (HC7.out.add hst2)
  have HNm := Lib.hid hnm
  clear hst2 hok2 hml2 hnm HC7
  clear h ho7 hI7 hU7 hq7 HR7 kn k0 HA6
  go_wp2_with (refine wpList_store_fld rfl 33 (.tmp 123) (.tmp 122) rfl T 10 (.slice mb nm mc) rfl rfl 36 #[.int .i64 5, .int .u64 (x1 : Int), .int .u64 (x2 : Int), .int .u64 (x3 : Int), .int .u64 (x4 : Int), .int .u64 (x5 : Int), .int .u64 0, .int .u64 (x6 : Int), .bool false, .slice none 0 0, .slice none 0 0, .slice none 0 0] #[.int .i64 5, .int .u64 (x1 : Int), .int .u64 (x2 : Int), .int .u64 (x3 : Int), .int .u64 (x4 : Int), .int .u64 (x5 : Int), .int .u64 0, .int .u64 (x6 : Int), .bool false, .slice none 0 0, .slice mb nm mc, .slice none 0 0] HD7.out.bt (by simp) rfl (by kernel_rfl) rfl ?_; intro ws7 hb ho; (have HA7 := Lib.hid (HD7.out.set hp hb ho)); (have kn : ws7.cell? ⟨M, 11, none⟩ = some (.slice d nd cd) := by rw [HA7.out.bm.cell]; rfl); (have k0 : ws7.cell? ⟨T, 0, none⟩ = some (.int .i64 5) := by rw [hb.cell]; rfl); clear hb ho)
  cases hr8 : H.text 16384 m.g q7 with
  | error c =>
    have HE := Lib.hid (HP7.out.trans (MsgMath.bindP_err hr8))
    have HR := Lib.hid hr8
    clear hr8
    go_wp2_with fail
    refine (hp.text (fun k => k = T ∨ k = R ∨ X k) (.slice d nd cd) m.g 16384 HA7.out.hand HA7.out.xlt ⟨HA7.out.src.imp fun W h => ⟨h.gs, fun e => e.elim⟩, HGl.out⟩ (by decide) (by have := HA7.out.ll; have := HL.out; omega)).mono ?_
    intro e w4 h
    obtain ⟨ho, hc, rfl⟩ := h.err HR.out
    exact ⟨rfl, HA7.out.lost HE.out ho hc⟩
  | ok pr =>
  obtain ⟨x8, q8⟩ := pr
  have hp8 := HP7.out.trans (MsgMath.bindP_ok hr8)
  try dsimp only at hp8
  have HP8 := Lib.hid hp8
  have HR8 := Lib.hid hr8
  clear hp8 hr8 HP7
  go_wp2_with fail
  refine (hp.text (fun k => k = T ∨ k = R ∨ X k) (.slice d nd cd) m.g 16384 HA7.out.hand HA7.out.xlt ⟨HA7.out.src.imp fun W h => ⟨h.gs, fun e => e.elim⟩, HGl.out⟩ (by decide) (by have := HA7.out.ll; have := HL.out; omega)).mono ?_
  intro e wc8 h
  obtain ⟨y8, U18, rfl, ho8, hv8, hI8, hU8, hq8⟩ := h.ok HR8.out
  have HC8 := Lib.hid (HA7.out.call ho8 hI8 hU8 hq8)
  obtain ⟨hst3, hgl3⟩ := hv8
  obtain ⟨xb, xc, rfl⟩ := hst3.now.1.shape
  have HGl3 := Lib.hid hgl3
  obtain ⟨nx, hnx⟩ : ∃ nx, nx = x8.length := ⟨_, rfl⟩
  rw [← hnx] at hst3 ⊢
  have HD8 := Lib.hid (HC8.out.add hst3)
  have HNx := Lib.hid hnx
  clear hst3 hgl3 hnx HC8
  clear h ho8 hI8 hU8 hq8 HR8 kn k0 HA7
  go_wp2_with (first
    | (refine wpList_store_fld rfl 34 (.tmp 128) (.tmp 127) rfl T 11 (.slice xb nx xc) rfl rfl 36 #[.int .i64 5, .int .u64 (x1 : Int), .int .u64 (x2 : Int), .int .u64 (x3 : Int), .int .u64 (x4 : Int), .int .u64 (x5 : Int), .int .u64 0, .int .u64 (x6 : Int), .bool false, .slice none 0 0, .slice mb nm mc, .slice none 0 0] #[.int .i64 5, .int .u64 (x1 : Int), .int .u64 (x2 : Int), .int .u64 (x3 : Int), .int .u64 (x4 : Int), .int .u64 (x5 : Int), .int .u64 0, .int .u64 (x6 : Int), .bool false, .slice none 0 0, .slice mb nm mc, .slice xb nx xc] HD8.out.bt (by simp) rfl (by kernel_rfl) rfl ?_; intro ws8 hb ho; (have HA8 := Lib.hid (HD8.out.set hp hb ho)); (have k0 : ws8.cell? ⟨T, 0, none⟩ = some (.int .i64 5) := by rw [hb.cell]; rfl); clear hb ho)
    | (refine wpList_load_by rfl 36 (.tmp 5) rfl _ (.agg #[.int .i64 5, .int .u64 (x1 : Int), .int .u64 (x2 : Int), .int .u64 (x3 : Int), .int .u64 (x4 : Int), .int .u64 (x5 : Int), .int .u64 0, .int .u64 (x6 : Int), .bool false, .slice none 0 0, .slice mb nm mc, .slice xb nx xc]) rfl (Blk.loads (P := Try.prog) HA8.out.bt 36 _ Try.underlying36 rfl (by kernel_rfl)) ?_)
    | (refine wpList_store_all rfl 36 (.tmp 4) (.tmp 129) rfl R #[.int .i64 5, .int .u64 (x1 : Int), .int .u64 (x2 : Int), .int .u64 (x3 : Int), .int .u64 (x4 : Int), .int .u64 (x5 : Int), .int .u64 0, .int .u64 (x6 : Int), .bool false, .slice none 0 0, .slice mb nm mc, .slice xb nx xc] rfl rfl 36 zeroM HA8.out.br (by kernel_rfl) rfl (by simp [Value.oneCell']) ?_; intro wz hb ho; (have HZ := Lib.hid hb); (have HO := Lib.hid ho); clear hb ho))
  exact bodyPost_ret (v := .agg #[.int .i64 5, .int .u64 (x1 : Int), .int .u64 (x2 : Int), .int .u64 (x3 : Int), .int .u64 (x4 : Int), .int .u64 (x5 : Int), .int .u64 0, .int .u64 (x6 : Int), .bool false, .slice none 0 0, .slice mb nm mc, .slice xb nx xc]) (results_cell_row rfl _ _ R 36 #[.int .i64 5, .int .u64 (x1 : Int), .int .u64 (x2 : Int), .int .u64 (x3 : Int), .int .u64 (x4 : Int), .int .u64 (x5 : Int), .int .u64 0, .int .u64 (x6 : Int), .bool false, .slice none 0 0, .slice mb nm mc, .slice xb nx xc] (0, 0) _ rfl HZ.out Try.underlying36 rfl (by kernel_rfl)) rfl (HA8.out.fin hp (m' := ⟨5, x1, x2, x3, x4, x5, 0, x6, false, [], x7, x8⟩) (ve := (.slice none 0 0)) (vm := (.slice mb nm mc)) (vg := (.slice xb nx xc)) (us := []) HZ.out HO.out HP8.out (by decide) (fun W hW => ⟨⟨⟨by simp, by simp, HX1.out, HX2.out, HX3.out, HX4.out, HX5.out, (by simp), HX6.out, by simp, HOk2.out⟩, .inl ⟨rfl, rfl⟩, fun u hu => absurd hu List.not_mem_nil, rfl, hW.1.2.1, hW.2.1, by simp, by have := HMl2.out; show x7.length ≤ _; omega, HGl3.out⟩, fun hF => ⟨free_nil _ _ _, fun _ a k c e => by have h := hW.1.2.2 hF a k c e; show FreeA W a x7.length; rw [← HNm.out]; exact h, fun _ a k c e => by have h := hW.2.2 hF a k c e; show FreeA W a x8.length; rw [← HNx.out]; exact h, fun _ hu => absurd hu List.not_mem_nil⟩⟩))

end
end Go.Proofs.Ytgbhfolbkgibfaa

