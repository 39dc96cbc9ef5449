/- Joined: MsgSpec, MsgPut, MsgGet, MsgProgram. -/
import Derived.Test.YtidapdooiibfnaaXC
import Derived.Test.YtidapdooiibfnaaXD
import Derived.Test.YtidapdooiibfnaaHN
import Derived.Test.YtidapdooiibfnaaHS
import Derived.Deep.Cut
import Derived.Test.YtidapdooiibfnaaHQ
import Derived.Test.YtidapdooiibfnaaHR
import Derived.Test.YtidapdooiibfnaaHM
/- Layer 18: what msg's functions are to answer (MsgProg), and the law's awake. -/
namespace Go.Proofs.Ytidapdooiibfnaa
set_option maxRecDepth 20000
open Go.RowKit BinMath CmdMath Reg
open MsgMath (Mg getM putM formedM)

theorem eql_bool (s t : Operand) (b : Bool) (W : World) : (do eqGuard .eql 4 s t (.bool b) (.bool b); binOp .eql 4 (.bool b) (.bool b) : Sem Value).run Try.prog W = .ok (.bool true) W := by
  cases b <;> kernel_rfl

theorem neq_bool (s t : Operand) (b : Bool) (W : World) : (do eqGuard .neq 4 s t (.bool b) (.bool b); binOp .neq 4 (.bool b) (.bool b) : Sem Value).run Try.prog W = .ok (.bool false) W := by
  cases b <;> kernel_rfl

theorem eql_errno (s t : Operand) (c : Int) (W : World) : (do eqGuard .eql 30 s t (.int .i64 c) (.int .i64 c); binOp .eql 30 (.int .i64 c) (.int .i64 c) : Sem Value).run Try.prog W = .ok (.bool true) W := by
  have h : (c == c) = true := beq_self_eq_true c
  simp [eqGuard, go_sem]

/-- What a message leads to stays the same as long as no block from B on is written. -/
def MFar (w : World) (B : Nat) (m : Mg) (ve vm vg : Value) (us : List EE) : Prop :=
  ∀ W : World, (∀ k, B ≤ k → k < w.heap.size → W.heap[k]? = w.heap[k]?) → MHas W m ve vm vg us

theorem MFar.has {w : World} {B : Nat} {m : Mg} {ve vm vg : Value} {us : List EE} (h : MFar w B m ve vm vg us) : MHas w m ve vm vg us := h w fun _ _ _ => rfl
theorem MFar.to {w w' : World} {B : Nat} {m : Mg} {ve vm vg : Value} {us : List EE} (h : MFar w B m ve vm vg us) (hs : w.heap.size ≤ w'.heap.size) (hk : ∀ k, B ≤ k → k < w.heap.size → w'.heap[k]? = w.heap[k]?) : MFar w' B m ve vm vg us :=
  fun W hW => h W fun k h1 h2 => (hW k h1 (Nat.lt_of_lt_of_le h2 hs)).trans (hk k h1 h2)
theorem MFar.below {w w' : World} {B : Nat} {m : Mg} {ve vm vg : Value} {us : List EE} (h : MFar w B m ve vm vg us) (hb : Below w.heap.size w w') : MFar w' B m ve vm vg us := h.to hb.size fun k _ hk => hb.block k hk
theorem MOwn.far {w : World} {B : Nat} {m : Mg} {ve vm vg : Value} {us : List EE} (h : MOwn w B m ve vm vg us) : MFar w B m ve vm vg us := fun _ hW => (h.to hW).has

/-- What Put answers: the bytes and the error. -/
def putMR (m : Mg) : List UInt8 × Nat := if formedM m = true then (putM m, 0) else ([], 1)

/-- How Put ends. -/
def MPutEnd (l : List UInt8) (c : Nat) (w : World) (r : Ending) (w' : World) : Prop :=
  ∃ a k, r = .returned (.tuple #[.slice a l.length k, .int .i64 (c : Int)]) ∧ Bys w' (.slice a l.length k) l ∧ l.length ≤ k ∧ Below w.heap.size w w'

/-- How Get ends: the fields, and what they lead to lies in memory that the call made. -/
def MGot (m : Mg) (c : Nat) (w : World) (e : Ending) (w' : World) : Prop :=
  ∃ ve vm vg us, e = .returned (.tuple #[.agg (mgC m ve vm vg), .int .i64 (c : Int)]) ∧ MFar w' w.heap.size m ve vm vg us ∧ Below w.heap.size w w'

structure MsgProg : Prop where
  formed : ∀ (m : Mg) (ve vm vg : Value) (us : List EE) (w : World), MHas w m ve vm vg us →
    Calls Try.prog 12 #[.agg (mgC m ve vm vg)] w fun r w' => r = .returned (.bool (formedM m)) ∧ Below w.heap.size w w'
  put : ∀ (m : Mg) (ve vm vg : Value) (us : List EE) (w : World), MHas w m ve vm vg us →
    Calls Try.prog 10 #[.agg (mgC m ve vm vg)] w (MPutEnd (putMR m).1 (putMR m).2 w)
  get : ∀ (v : Option Addr) (len c : Nat) (l : List UInt8) (w : World), Bys w (.slice v len c) l → l.length ≤ 140737488351232 → len ≤ c →
    Calls Try.prog 15 #[.slice v len c] w (MGot (getM l).1 (getM l).2 w)
  same : ∀ (M Q : Mg) (ve vm vg ve' vm' vg' : Value) (us vs : List EE) (w : World), MHas w M ve vm vg us → MHas w Q ve' vm' vg' vs →
    Calls Try.prog 17 #[.agg (mgC M ve vm vg), .agg (mgC Q ve' vm' vg')] w fun r w' => r = .returned (.bool (decide (M = Q))) ∧ Below w.heap.size w w'

theorem MsgProg.put_is (hp : MsgProg) {m : Mg} {l : List UInt8} {c : Nat} {ve vm vg : Value} {us : List EE} {w : World} (hr : putMR m = (l, c)) (hm : MHas w m ve vm vg us) :
    Calls Try.prog 10 #[.agg (mgC m ve vm vg)] w (MPutEnd l c w) := by
  have h := hp.put m ve vm vg us w hm
  rwa [hr] at h
theorem refMsgPut_is {m : Mg} {l : List UInt8} {c : Nat} {ve vm vg : Value} {us : List EE} {w : World} (hr : putMR m = (l, c)) (hm : MHas w m ve vm vg us) :
    Calls Try.prog 11 #[.agg (mgC m ve vm vg)] w fun r w' => ∃ v, r = .returned (.tuple #[v, .int .i64 (c : Int)]) ∧ Bys w' v l ∧ Below w.heap.size w w' := by
  unfold putMR at hr
  by_cases hf : formedM m = true
  · rw [if_pos hf] at hr
    cases hr
    exact (refMsgPut_yes m ve vm vg us w hm hf).mono fun r w' ⟨v, h1, h2, h3⟩ => ⟨v, h1, h2.bys, h3⟩
  · rw [if_neg hf] at hr
    cases hr
    exact (refMsgPut_no m ve vm vg us w hm (by simpa using hf)).mono fun r w' ⟨h1, h2⟩ => ⟨_, h1, .inl ⟨rfl, rfl⟩, h2⟩
theorem MsgProg.same_self (hp : MsgProg) (m : Mg) {ve vm vg ve' vm' vg' : Value} {us vs : List EE} {w : World} (hM : MHas w m ve vm vg us) (hQ : MHas w m ve' vm' vg' vs) :
    Calls Try.prog 17 #[.agg (mgC m ve vm vg), .agg (mgC m ve' vm' vg')] w fun r w' => r = .returned (.bool true) ∧ Below w.heap.size w w' := by
  have h := hp.same m m _ _ _ _ _ _ us vs w hM hQ
  rwa [decide_eq_true (rfl : m = m)] at h
theorem refMsgSame_self (m : Mg) {ve vm vg ve' vm' vg' : Value} {us vs : List EE} {w : World} (hM : MHas w m ve vm vg us) (hQ : MHas w m ve' vm' vg' vs) :
    Calls Try.prog 14 #[.agg (mgC m ve vm vg), .agg (mgC m ve' vm' vg')] w fun r w' => r = .returned (.bool true) ∧ Below w.heap.size w w' := by
  have h := refMsgSame_any m m _ _ _ _ _ _ us vs w hM hQ
  rwa [decide_eq_true (rfl : m = m)] at h

theorem mgC_info (m : Mg) (ve vm vg : Value) : (Try.prog.info? 27).map (·.size) = some (mgC m ve vm vg).size := by
  have h : (Try.prog.info? 27).map (·.size) = some 12 := by kernel_rfl
  exact h

theorem mgC_one {w : World} {m : Mg} {ve vm vg : Value} {us : List EE} (h : MHas w m ve vm vg us) : (mgC m ve vm vg).all (·.oneCell') = true := by
  obtain ⟨a, ca, rfl⟩ := h.els.form
  obtain ⟨b, cb, rfl⟩ := h.ms.shape
  obtain ⟨d, cd, rfl⟩ := h.gs.shape
  simp [mgC, Value.oneCell']

theorem putMR_zero {m : Mg} {l : List UInt8} (h : putMR m = (l, 0)) : formedM m = true ∧ putM m = l := by
  unfold putMR at h
  by_cases hf : formedM m = true
  · rw [if_pos hf] at h
    exact ⟨hf, (Prod.mk.inj h).1⟩
  · rw [if_neg hf] at h
    simp at h

/-- The message that is awake's. -/
def wakeM : Mg := ⟨2, 1, 2, 3, 0, 0, 0, 0, true, [], [], []⟩
def wakeB : List UInt8 := [2, 1, 1, 1, 2, 1, 3, 1]

theorem wakeM_has (w : World) : MHas w wakeM (.slice none 0 0) (.slice none 0 0) (.slice none 0 0) [] :=
  ⟨⟨by decide, by decide, by decide, by decide, by decide, by decide, by decide, by decide, by decide, by simp [wakeM], by simp [wakeM]⟩, .inl ⟨rfl, rfl⟩, fun u hu => absurd hu List.not_mem_nil, rfl, .inl ⟨rfl, rfl⟩, .inl ⟨rfl, rfl⟩, by simp, by simp [wakeM], by simp [wakeM]⟩

theorem wakeM_put : putMR wakeM = (wakeB, 0) := by decide

set_option maxHeartbeats 4000000 in
theorem wake18_any (hp : MsgProg) (w : World) : Calls Try.prog 8 #[] w fun e w' => e = .returned (.bool true) ∧ Below w.heap.size w w' := by
  have HP := Lib.hid (hp.put_is wakeM_put (wakeM_has w))
  simp only [mgC, wakeM] at HP
  go_enter Try.func8, Try.ntmps8
  go_wp2_with fail
  refine HP.out.mono ?_
  rintro e w2 ⟨a, k, rfl, hr, -, hb⟩
  obtain ⟨v, hv⟩ : ∃ v, v = Value.slice a wakeB.length k := ⟨_, rfl⟩
  rw [← hv] at hr ⊢
  have hc := conv_bys hr
  clear hv
  have HB := Lib.hid hb
  clear hb hr HP
  unfold wakeB at hc
  go_wp2
  go_ret
  exact ⟨rfl, HB.out⟩
end Go.Proofs.Ytidapdooiibfnaa

/- Layer 18: Put, and Formed. -/
namespace Go.Proofs.Ytidapdooiibfnaa
set_option maxRecDepth 20000
open Go.RowKit Go.Maps BinMath CmdMath Reg
open MsgMath (Mg Hand wrH walkH formedM putM)

/-! ### What a message leads to, where its blocks are the same -/

theorem Bys.agree {w W : World} {v : Value} {l : List UInt8} (h : Bys w v l) (ha : ∀ k, k < w.heap.size → W.heap[k]? = w.heap[k]?) : Bys W v l := by
  rcases h with h | ⟨ad, cap, hv, hc⟩
  · exact .inl h
  · exact .inr ⟨ad, cap, hv, fun i hi => by
      have h1 := hc i hi
      rw [World.cell?_of_block (w := w) (ha _ (World.block_lt_of_cell? w _ h1))]
      exact h1⟩
theorem Nums.agree {w W : World} {v : Value} {l : List Nat} (h : Nums w v l) (ha : ∀ k, k < w.heap.size → W.heap[k]? = w.heap[k]?) : Nums W v l := by
  rcases h with h | ⟨ad, cap, hv, hl, hc⟩
  · exact .inl h
  · exact .inr ⟨ad, cap, hv, hl, fun i hi => by
      have h1 := hc i hi
      rw [World.cell?_of_block (w := w) (ha _ (World.block_lt_of_cell? w _ h1))]
      exact h1⟩
theorem Els.agree {w W : World} {v : Value} {us : List EE} (h : Els w v us) (ha : ∀ k, k < w.heap.size → W.heap[k]? = w.heap[k]?) : Els W v us := by
  rcases h with h | ⟨ad, cap, hv, hl, hc⟩
  · exact .inl h
  · exact .inr ⟨ad, cap, hv, hl, fun j u hj => by
      have h1 := hc j u hj
      rw [World.cell?_of_block (w := w) (ha _ (World.block_lt_of_cell? w _ h1))]
      exact h1⟩
theorem MHas.agree {w W : World} {m : Mg} {ve vm vg : Value} {us : List EE} (h : MHas w m ve vm vg us) (ha : ∀ k, k < w.heap.size → W.heap[k]? = w.heap[k]?) : MHas W m ve vm vg us :=
  ⟨h.ok, h.els.agree ha, fun u hu => ⟨(h.all u hu).ok, (h.all u hu).d.agree ha, (h.all u hu).m.agree ha, (h.all u hu).dl, (h.all u hu).ml⟩, h.ents, h.ms.agree ha, h.gs.agree ha, h.ul, h.ml, h.gl⟩

/-- What Put's closure leaves: L is the writer, T the message that is told, E the error of the one that calls it. -/
def PutGot (L T E : Nat) (m : Mg) (w : World) (c : Int) (w' : World) : Prop :=
  OnlyS (fun k => k = L ∨ k = T) w w' ∧ match walkH wrH m [] with
  | .error d => c = (d : Int) ∧ d ≠ 0
  | .ok (t, l) => c = 0 ∧ ∃ (U : Nat → Prop) (ve vm vg : Value) (us : List EE), WrI L w.heap.size w' U l ∧ (∀ k, U k → k = L ∨ w.heap.size ≤ k) ∧ Blk w' T 27 (mgC t ve vm vg) ∧ Stay w' (fun k => U k ∨ k = T ∨ k = E) 0 (fun W => MHas W t ve vm vg us)

set_option maxHeartbeats 2000000 in
theorem put1_any (L M T E : Nat) (m : Mg) (ve vm vg : Value) (us : List EE) (w : World) (hL : Blk w L 44 #[.slice none 0 0]) (hM : Blk w M 27 (mgC m ve vm vg)) (hT : Blk w T 27 zeroM) (hLT : ¬ L = T) (hE : E < w.heap.size) (hm : Stay w (fun k => k = L ∨ k = T ∨ k = E) 0 (fun W => MHas W m ve vm vg us)) :
    Calls Try.prog 19 #[.pointer (some ⟨L, 0, none⟩), .pointer (some ⟨M, 0, none⟩), .pointer (some ⟨T, 0, none⟩)] w fun e w' => ∃ c, Gives c e ∧ PutGot L T E m w c w' := by
  have hI : WrI L w.heap.size w (fun k => k = L) [] := ⟨.slice none 0 0, hL, World.ownsRow_nil _ _ _ _, fun k => ⟨.inl, fun h => h.elim id fun h => by simp [Value.ownBlock] at h⟩, hL.lt, Nat.le_refl _⟩
  have HW := Lib.hid (walk_any (writer_hand L w.heap.size) (fun k => k = T ∨ k = E) m ve vm vg us hI (fun k hk => hk.elim (fun e => e ▸ hT.lt) (fun e => e ▸ hE)) hm (by simp))
  have HLd := Lib.hid (Blk.loads (P := Try.prog) hM 27 _ Try.underlying27 rfl (mgC_info m ve vm vg))
  have HT := Lib.hid hT
  have HLT := Lib.hid hLT
  clear hL hM hT hm hI hLT
  cases hr : walkH wrH m [] with
  | error d =>
    have HR := Lib.hid hr
    clear hr
    go_enter Try.func19, Try.ntmps19
    go_wp2_with (refine wpList_load_by rfl 27 (.tmp 1) rfl _ _ rfl HLd.out ?_)
    refine HW.out.mono ?_
    intro e w2 h
    obtain ⟨ho, hc, rfl⟩ := h.err HR.out
    refine ⟨rfl, (d : Int), ⟨fun h => absurd h (by omega), fun _ => rfl⟩, ho.mono (fun _ _ e => .inl e), ?_⟩
    rw [HR.out]
    exact ⟨rfl, hc⟩
  | ok p =>
    obtain ⟨t, l⟩ := p
    have HR := Lib.hid hr
    clear hr
    go_enter Try.func19, Try.ntmps19
    go_wp2_with (refine wpList_load_by rfl 27 (.tmp 1) rfl _ _ rfl HLd.out ?_)
    refine HW.out.mono ?_
    intro e w2 h
    obtain ⟨y, U, rfl, ho, ⟨ve', vm', vg', us', rfl, hst⟩, hI, hU, -⟩ := h.ok HR.out
    have HT2 := Lib.hid (HT.out.onlyS ho (fun e => HLT.out e.symm))
    have HUT := Lib.hid (show ¬ U T from fun e => by
      have := HT.out.lt
      rcases hU T e with e | e
      · exact HLT.out e.symm
      · omega)
    have HI := Lib.hid hI
    have HU := Lib.hid hU
    have HS := Lib.hid hst
    have HO := Lib.hid ho
    clear h ho hst hI hU HLd
    go_wp2_with (refine wpList_store_all rfl 27 (.tmp 2) (.tmp 5) rfl T (mgC t ve' vm' vg') rfl rfl 27 zeroM HT2.out (mgC_info t ve' vm' vg') rfl (mgC_one HS.out.now) ?_; intro w3 hb ho; (have HB := Lib.hid hb); (have HO3 := Lib.hid ho); clear hb ho)
    go_end0
    refine ⟨0, ⟨fun _ => rfl, fun h => absurd rfl h⟩, (HO.out.mono (fun _ _ e => .inl e)).then HO3.out (fun _ _ e => .inr e), ?_⟩
    rw [HR.out]
    exact ⟨rfl, U, ve', vm', vg', us', HI.out.keep HO3.out (fun k _ e => by have e : k = T := e; subst e; exact HUT.out), HU.out, HB.out, HS.out.step HO3.out (fun _ _ e => .inr (.inl e)) (fun _ _ e => e)⟩

set_option maxHeartbeats 2000000 in
theorem msgPut_any (m : Mg) (ve vm vg : Value) (us : List EE) (w : World) (hm : MHas w m ve vm vg us) :
    Calls Try.prog 10 #[.agg (mgC m ve vm vg)] w (MPutEnd (putMR m).1 (putMR m).2 w) := by
  have hmf : ∀ (fn : Fn) (first cap : Array Value) (w : World), (Instr.makeFunc fn first cap).run Try.prog w = .ok (.func fn first cap) w := fun _ _ _ _ => rfl
  obtain ⟨w0, hw0⟩ : ∃ w0, w0 = ((w.alloc (.cells (mgC m ve vm vg) 27)).alloc (.cells #[.slice none 0 0] 44)).alloc (.cells zeroM 27) := ⟨_, rfl⟩
  have hb0 : Below w.heap.size w w0 := by rw [hw0]; exact (((Below.refl _ _).alloc (Nat.le_refl _) _).alloc (by simp) _).alloc (by simp only [World.size_alloc]; omega) _
  have hs0 : w0.heap.size = w.heap.size + 3 := by rw [hw0]; simp
  have B1 : Blk w0 w.heap.size 27 (mgC m ve vm vg) := by rw [hw0]; exact ((Blk.new w _ _).alloc _).alloc _
  have B2 : Blk w0 (w.heap.size + 1) 44 #[.slice none 0 0] := by
    rw [hw0]
    exact (Blk.newAt (w.alloc (.cells (mgC m ve vm vg) 27)) 44 _ _ (w.heap.size + 1) (by simp) rfl).alloc _
  have B3 : Blk w0 (w.heap.size + 2) 27 zeroM := by
    rw [hw0]
    exact Blk.newAt ((w.alloc (.cells (mgC m ve vm vg) 27)).alloc (.cells #[.slice none 0 0] 44)) 27 _ _ (w.heap.size + 2) (by simp) rfl
  have hC := caught_any 19 #[] #[.pointer (some ⟨w.heap.size + 1, 0, none⟩), .pointer (some ⟨w.heap.size, 0, none⟩), .pointer (some ⟨w.heap.size + 2, 0, none⟩)] (enters _ (by kernel_rfl)) w0
    (fun c w2 => ∃ w1, Below (w.heap.size + 3) w0 w1 ∧ w1.heap.size = w.heap.size + 4 ∧ PutGot (w.heap.size + 1) (w.heap.size + 2) (w.heap.size + 3) m w1 c w2)
    (fun w1 hb hs => by
      rw [hs0] at hb hs
      have hb' : Below w0.heap.size w0 w1 := by rw [hs0]; exact hb
      refine (put1_any (w.heap.size + 1) w.heap.size (w.heap.size + 2) (w.heap.size + 3) m ve vm vg us w1 (B2.keep hb') (B1.keep hb') (B3.keep hb') (by omega) (by omega) (fun W hW => hm.agree fun k hk => ?_)).mono ?_
      · rw [hW k (Nat.zero_le _) (by omega) (by omega), hb'.block k (by omega), hb0.block k hk]
      rintro e w2 ⟨c, hg, hgot⟩
      refine ⟨c, hg, ⟨w1, hb, hs, hgot⟩, hgot.1.size, ?_⟩
      rw [hs0]
      exact hgot.1.block _ (by omega) (by omega))
  have HC := Lib.hid hC
  have HB0 := Lib.hid hb0
  have HS0 := Lib.hid hs0
  have HB1 := Lib.hid B1
  have HW0 := Lib.hid hw0
  have HM := Lib.hid hm
  clear hm hb0 hs0 B1 B2 B3 hC hw0
  go_enter Try.func10, Try.ntmps10
  go_wp2_with fail
  have e0 : w0 = ((w.alloc (.cells (mgC m ve vm vg) 27)).alloc (.cells #[.slice none 0 0] 44)).alloc (.cells #[.int .i64 0, .int .u64 0, .int .u64 0, .int .u64 0, .int .u64 0, .int .u64 0, .int .u64 0, .int .u64 0, .bool false, .slice none 0 0, .slice none 0 0, .slice none 0 0] 27) := HW0.out
  rw [← e0]
  clear e0 HW0
  refine HC.out.mono ?_
  rintro e w3 ⟨c, w2, ⟨w1, hb1, hs1, h1, h2⟩, rfl, hsz, ho⟩
  rw [HS0.out] at hsz ho
  have hbw : Below w.heap.size w w2 := (HB0.out.trans (hb1.mono (by omega))).trans (h1.below (fun k hk h => by omega) (by omega))
  have hb3 : Below w.heap.size w w3 := hbw.trans (ho.below (fun k hk h => by have h : k = w.heap.size + 3 := h; omega) (by omega))
  have HB3 := Lib.hid hb3
  have hs3 : w.heap.size + 4 ≤ w3.heap.size := Nat.le_trans hsz ho.size
  cases hr : walkH wrH m [] with
  | error d =>
    rw [hr] at h2
    obtain ⟨rfl, hd⟩ := h2
    have HP := Lib.hid (show putMR m = ([], 1) by unfold putMR; rw [if_neg (by rw [MsgMath.put_lost HM.out.ok hr]; simp)])
    have q : ((d : Int) != 0) = true := by simpa using hd
    clear hr hbw hb1 hs1 h1 ho hb3 hd
    go_wp2
    go_ret2
    rw [HP.out]
    exact ⟨none, 0, rfl, .inl ⟨rfl, rfl⟩, Nat.le_refl _, HB3.out⟩
  | ok p =>
    obtain ⟨t, l⟩ := p
    rw [hr] at h2
    obtain ⟨rfl, U, ve', vm', vg', us', hI, hUk, hT, hst⟩ := h2
    have hB1 : Blk w3 w.heap.size 27 (mgC m ve vm vg) := ((HB1.out.keep (by rw [HS0.out]; exact hb1)).onlyS h1 (by omega)).onlyS ho (by omega)
    have hT3 : Blk w3 (w.heap.size + 2) 27 (mgC t ve' vm' vg') := hT.onlyS ho (by omega)
    have hI3 : WrI (w.heap.size + 1) w1.heap.size w3 U l := hI.keep ho (fun k hk e hu => by
      have e : k = w.heap.size + 3 := e
      rcases hUk k hu with h | h <;> omega)
    have hmt : MHas w3 t ve' vm' vg' us' := (hst.step ho (fun _ _ e => .inr (.inr e)) (fun _ _ e => e)).now
    have hmm : MHas w3 m ve vm vg us := HM.out.below (Nat.le_refl _) hb3
    obtain ⟨v, hL, hrow, -, -, -⟩ := hI3
    obtain ⟨va, vc, rfl, hvc⟩ := row_cap hrow
    have HSame := Lib.hid (msgSame_any t m ve' vm' vg' ve vm vg us' us w3 hmt hmm)
    have HLT := Lib.hid (Blk.loads (P := Try.prog) hT3 27 _ Try.underlying27 rfl (mgC_info t ve' vm' vg'))
    have HLM := Lib.hid (Blk.loads (P := Try.prog) hB1 27 _ Try.underlying27 rfl (mgC_info m ve vm vg))
    have HL := Lib.hid hL
    have HRow := Lib.hid hrow
    have HVc := Lib.hid hvc
    obtain ⟨ln, hln⟩ : ∃ ln, ln = l.length := ⟨_, rfl⟩
    rw [← hln] at HL HRow HVc
    have HLn := Lib.hid hln
    clear hbw hb1 hs1 h1 ho hb3 hB1 hT3 hI hst hT hmt hmm hL hrow hvc hln hUk HC HB0 HS0 HB1
    rcases MsgMath.put_walk HM.out.ok hr with ⟨rfl, hf, rfl⟩ | ⟨hne, hf⟩
    · have HP := Lib.hid (show putMR t = (putM t, 0) by unfold putMR; rw [if_pos hf])
      rw [decide_eq_true rfl] at HSame
      clear hr hf
      go_wp2_with (first
        | (refine wpList_load_guarded rfl 27 (.tmp 5) rfl _ _ rfl HLT.out ?_)
        | (refine wpList_load_guarded rfl 27 (.tmp 1) rfl _ _ rfl HLM.out ?_))
      refine HSame.out.mono ?_
      rintro e w4 ⟨rfl, hb4⟩
      have HB4 := Lib.hid (HB3.out.trans (hb4.mono (by omega)))
      have HRow4 := Lib.hid (HRow.out.below hb4)
      have kL : w4.cell? ⟨w.heap.size + 1, 0, none⟩ = some (.slice va ln vc) := by rw [(HL.out.keep hb4).cell]; rfl
      clear hb4
      go_wp2
      go_ret2
      rw [HP.out]
      have hln := HLn.out
      subst hln
      exact ⟨va, vc, rfl, HRow4.out.bys, HVc.out, HB4.out⟩
    · have HP := Lib.hid (show putMR m = ([], 1) by unfold putMR; rw [if_neg (by rw [hf]; simp)])
      rw [decide_eq_false hne] at HSame
      clear hr hf hne
      go_wp2_with (first
        | (refine wpList_load_guarded rfl 27 (.tmp 5) rfl _ _ rfl HLT.out ?_)
        | (refine wpList_load_guarded rfl 27 (.tmp 1) rfl _ _ rfl HLM.out ?_))
      refine HSame.out.mono ?_
      rintro e w4 ⟨rfl, hb4⟩
      have HB4 := Lib.hid (HB3.out.trans (hb4.mono (by omega)))
      clear hb4
      go_wp2
      go_ret2
      rw [HP.out]
      exact ⟨none, 0, rfl, .inl ⟨rfl, rfl⟩, Nat.le_refl _, HB4.out⟩

set_option maxHeartbeats 1000000 in
theorem msgFormed_any (m : Mg) (ve vm vg : Value) (us : List EE) (w : World) (hm : MHas w m ve vm vg us) :
    Calls Try.prog 12 #[.agg (mgC m ve vm vg)] w fun r w' => r = .returned (.bool (formedM m)) ∧ Below w.heap.size w w' := by
  have hb0 : Below w.heap.size w (w.alloc (.cells (mgC m ve vm vg) 27)) := (Below.refl _ _).alloc (Nat.le_refl _) _
  have HP := Lib.hid (msgPut_any m ve vm vg us _ (hm.below (Nat.le_refl _) hb0))
  have HL := Lib.hid (Blk.loads (P := Try.prog) (Blk.new w 27 (mgC m ve vm vg)) 27 _ Try.underlying27 rfl (mgC_info m ve vm vg))
  have HB := Lib.hid hb0
  clear hm hb0
  go_enter Try.func12, Try.ntmps12
  go_wp2_with (refine wpList_load_by rfl 27 (.tmp 1) rfl _ _ rfl HL.out ?_)
  refine HP.out.mono ?_
  rintro e w2 ⟨a, k, rfl, -, -, hb⟩
  have HB2 := Lib.hid (HB.out.trans (hb.mono HB.out.size))
  clear hb
  by_cases hf : formedM m = true
  · have e2 : putMR m = (putM m, 0) := by unfold putMR; rw [if_pos hf]
    have HF := Lib.hid hf
    rw [e2]
    dsimp only
    obtain ⟨ln, hln⟩ : ∃ ln, ln = (putM m).length := ⟨_, rfl⟩
    rw [← hln]
    clear e2 hf hln
    go_wp2
    go_ret
    exact ⟨by rw [HF.out]; rfl, HB2.out⟩
  · have e2 : putMR m = ([], 1) := by unfold putMR; rw [if_neg hf]
    have HF := Lib.hid (show formedM m = false by simpa using hf)
    rw [e2]
    dsimp only
    clear e2 hf
    go_wp2
    go_ret
    exact ⟨by rw [HF.out]; rfl, HB2.out⟩
end Go.Proofs.Ytidapdooiibfnaa

/- Layer 18: Get, and all that the landed msg answers. -/
namespace Go.Proofs.Ytidapdooiibfnaa
set_option maxRecDepth 20000
open Go.RowKit Go.Maps BinMath CmdMath Reg
open MsgMath (Mg Hand rdH walkH getM gMsg)

theorem Stay.far {w w' : World} {V Y : Nat → Prop} {B : Nat} {p : World → Prop} (h : Stay w Y B p) (ho : OnlyS V w w') (hV : ∀ k, B ≤ k → V k → Y k) : Stay w' (fun _ => False) B p :=
  fun W hW => h W fun k hB hk hn => (hW k hB (Nat.lt_of_lt_of_le hk ho.size) fun e => e).trans (ho.block k hk fun hv => hn (hV k hB hv))

/-- What Get's closure leaves: T is the message that is told. -/
def GotM (l : List UInt8) (T : Nat) (w : World) (c : Int) (w' : World) : Prop :=
  OnlyS (fun k => k = T) w w' ∧ c = ((getM l).2 : Int) ∧ (c = 0 → ∃ (ve vm vg : Value) (us : List EE), Blk w' T 27 (mgC (getM l).1 ve vm vg) ∧ Stay w' (fun _ => False) w.heap.size (fun W => MHas W (getM l).1 ve vm vg us))

theorem getM_err {l : List UInt8} {c : Nat} (h : gMsg l = .error c) : getM l = (Mg.zero, c) := by unfold getM; rw [h]
theorem getM_tail {l q : List UInt8} {m : Mg} (h : gMsg l = .ok (m, q)) (hq : q ≠ []) : getM l = (Mg.zero, 5) := by
  unfold getM
  rw [h]
  simp only
  rw [if_neg hq]
theorem getM_ok {l : List UInt8} {m : Mg} (h : gMsg l = .ok (m, [])) : getM l = (m, 0) := by
  unfold getM
  rw [h]
  simp only
  rw [if_pos trivial]

theorem At.wroteI {w w' : World} {R g G : Nat} {l r : List UInt8} {t : TypeId} {cs : Array Value} {z : Int} (h : At w R G l r) (hb : Blk w g t cs) (h0 : cs[0]? = some (.int .i64 z)) (hR : ¬ R = g) (ho : OnlyS (fun b => b = g) w w') : At w' R G l r := by
  obtain ⟨k, ⟨b, cap, hh, hk, hl, ⟨hc1, hc2, hG⟩, hcase⟩, e⟩ := h
  have hRl : R < w.heap.size := (Array.getElem?_eq_some_iff.1 hh).1
  refine ⟨k, ⟨b, cap, by rw [ho.block R hRl hR]; exact hh, hk, hl, ⟨hc1, hc2, Nat.le_trans hG ho.size⟩, ?_⟩, e⟩
  rcases hcase with hcase | ⟨g', rfl, hn, hlt, hc⟩
  · exact .inl hcase
  · refine .inr ⟨g', rfl, hn, hlt, fun i hi => ?_⟩
    have hne : ¬ g' = g := fun e => by
      subst e
      have h1 := hc 0 (by omega)
      rw [hb.cell, h0] at h1
      simp [bv] at h1
    have hcl : w'.cell? ⟨g', i, none⟩ = w.cell? ⟨g', i, none⟩ := World.cell?_of_block (w := w) (ho.block g' (Nat.lt_of_lt_of_le hlt hG) hne)
    rw [hcl]
    exact hc i hi

set_option maxHeartbeats 2000000 in
theorem mget1_any (A T : Nat) (a : Option Addr) (len cap : Nat) (l : List UInt8) (w : World) (hA : Blk w A 25 #[.slice a len cap]) (hT : Blk w T 27 zeroM) (hx : Bys w (.slice a len cap) l) (hl : l.length ≤ 140737488351232) :
    Calls Try.prog 30 #[.pointer (some ⟨A, 0, none⟩), .pointer (some ⟨T, 0, none⟩)] w fun e w' => ∃ c, Gives c e ∧ GotM l T w c w' := by
  have HN := Lib.hid (rnew_any a len cap l w hx hl)
  have cA : w.cell? ⟨A, 0, none⟩ = some (.slice a len cap) := by rw [hA.cell]; rfl
  have hTl : T < w.heap.size := hT.lt
  have HT := Lib.hid hT
  clear hx hl hA hT
  go_enter Try.func30, Try.ntmps30
  go_wp2_with fail
  refine HN.out.mono ?_
  rintro e w2 ⟨R, rfl, hR, hrd, hb⟩
  have hs12 : w.heap.size ≤ w2.heap.size := hb.size
  have HB2 := Lib.hid (OnlyS.of_below (S := fun b => b = T) hb fun k hk _ => hk)
  have HT2 := Lib.hid (HT.out.keep hb)
  have hat : At w2 R w2.heap.size l l := ⟨0, hrd, rfl⟩
  have hI : RdI R w2.heap.size l w2 (fun k => k = R) l := ⟨fun _ => Iff.rfl, hat⟩
  have HW := Lib.hid (walk_any (reader_hand R w2.heap.size w.heap.size l hs12) (fun _ => False) Mg.zero (.slice none 0 0) (.slice none 0 0) (.slice none 0 0) [] hI (fun _ e => e.elim) (Stay.all fun W => MHas.zero W) (Nat.zero_le _))
  have hRl : R < w2.heap.size := hat.lt.1
  clear hrd hb HN cA hat hI HT
  go_wp2_with fail
  refine HW.out.mono ?_
  intro e w3 h
  rw [MsgMath.walkH_rd] at h
  cases hr : gMsg l with
  | error c =>
    obtain ⟨ho, hc, rfl⟩ := h.err hr
    refine ⟨rfl, (c : Int), ⟨fun h => absurd h (by omega), fun _ => rfl⟩, HB2.out.then ho (fun k hk e => by have e : k = R := e; omega), ?_⟩
    rw [getM_err hr]
    exact ⟨rfl, fun h => absurd h (by omega)⟩
  | ok p =>
    obtain ⟨m, q⟩ := p
    obtain ⟨y, U, rfl, ho, ⟨ve, vm, vg, us, rfl, hst⟩, hI, -, -⟩ := h.ok hr
    have HR := Lib.hid hr
    have HT3 := Lib.hid (HT2.out.onlyS ho (fun e => by have e : T = R := e; omega))
    have HB3 := Lib.hid (HB2.out.then ho (fun k hk e => by have e : k = R := e; omega))
    have HS := Lib.hid hst
    have HI := Lib.hid hI
    have hs23 : w2.heap.size ≤ w3.heap.size := ho.size
    clear h ho hst hI hr HW HT2 HB2
    go_wp2_with (refine wpList_store_all rfl 27 (.tmp 1) (.tmp 9) rfl T (mgC m ve vm vg) rfl rfl 27 zeroM HT3.out (mgC_info m ve vm vg) rfl (mgC_one HS.out.now) ?_; intro w4 hb ho; (have HB := Lib.hid hb); (have HO4 := Lib.hid ho); clear hb ho)
    have HAt := Lib.hid (HI.out.2.wroteI HT3.out (z := 0) rfl (by omega) HO4.out)
    have HB4 := Lib.hid (HB3.out.trans HO4.out)
    by_cases hq : q = []
    · have HR2 := Lib.hid (getM_ok (hq ▸ HR.out))
      have HQ := Lib.hid hq
      clear hq
      refine (readEnd_any HAt.out).mono ?_
      rintro e w5 ⟨rfl, ho⟩
      have HB5 := Lib.hid (HB4.out.then (OnlyS.of_only (S := fun b => b = R) ho rfl) fun k hk e => by have e : k = R := e; omega)
      have HT5 := Lib.hid (HB.out.onlyR ho (by omega))
      have HS5 := Lib.hid (HS.out.far ((HO4.out.mono (S := fun k => k = T ∨ k = R) (fun _ _ e => .inl e)).trans (OnlyS.of_only (S := fun k => k = T ∨ k = R) ho (.inr rfl))) (fun k hk e => .inl ((HI.out.1 k).2 (e.resolve_left (by omega)))))
      clear ho
      rw [if_pos HQ.out]
      go_wp2_with fail
      refine (must_ok _).mono ?_
      rintro e w6 ⟨rfl, rfl⟩
      go_wp2
      go_end0
      refine ⟨0, ⟨fun _ => rfl, fun h => absurd rfl h⟩, HB5.out, ?_⟩
      rw [HR2.out]
      exact ⟨rfl, fun _ => ⟨ve, vm, vg, us, HT5.out, HS5.out⟩⟩
    · have HR2 := Lib.hid (getM_tail HR.out hq)
      have HQ := Lib.hid hq
      clear hq
      refine (readEnd_any HAt.out).mono ?_
      rintro e w5 ⟨rfl, ho⟩
      have HB5 := Lib.hid (HB4.out.then (OnlyS.of_only (S := fun b => b = R) ho rfl) fun k hk e => by have e : k = R := e; omega)
      clear ho
      rw [if_neg HQ.out]
      go_wp2_with fail
      refine (must_bad 5 _ (by decide)).mono ?_
      rintro e w6 ⟨rfl, rfl⟩
      refine ⟨rfl, 5, ⟨fun h => absurd h (by decide), fun _ => rfl⟩, HB5.out, ?_⟩
      rw [HR2.out]
      exact ⟨rfl, fun h => absurd h (by decide)⟩

set_option maxHeartbeats 4000000 in
theorem msgGet_any (a : Option Addr) (len cap : Nat) (l : List UInt8) (w : World) (hx : Bys w (.slice a len cap) l) (hl : l.length ≤ 140737488351232) :
    Calls Try.prog 15 #[.slice a len cap] w (MGot (getM l).1 (getM l).2 w) := by
  have hmf : ∀ (fn : Fn) (first cap : Array Value) (w : World), (Instr.makeFunc fn first cap).run Try.prog w = .ok (.func fn first cap) w := fun _ _ _ _ => rfl
  obtain ⟨w0, hw0⟩ : ∃ w0, w0 = ((w.alloc (.cells #[.slice a len cap] 25)).alloc (.cells zeroM 27)).alloc (.cells zeroM 27) := ⟨_, rfl⟩
  have hb0 : Below w.heap.size w w0 := by rw [hw0]; exact (((Below.refl _ _).alloc (Nat.le_refl _) _).alloc (by simp) _).alloc (by simp only [World.size_alloc]; omega) _
  have hs0 : w0.heap.size = w.heap.size + 3 := by rw [hw0]; simp
  have B1 : Blk w0 w.heap.size 25 #[.slice a len cap] := by rw [hw0]; exact ((Blk.new w _ _).alloc _).alloc _
  have B2 : Blk w0 (w.heap.size + 1) 27 zeroM := by
    rw [hw0]
    exact (Blk.newAt (w.alloc (.cells #[.slice a len cap] 25)) 27 _ _ (w.heap.size + 1) (by simp) rfl).alloc _
  have B3 : Blk w0 (w.heap.size + 2) 27 zeroM := by
    rw [hw0]
    exact Blk.newAt ((w.alloc (.cells #[.slice a len cap] 25)).alloc (.cells zeroM 27)) 27 _ _ (w.heap.size + 2) (by simp) rfl
  have hC := caught_any 30 #[] #[.pointer (some ⟨w.heap.size, 0, none⟩), .pointer (some ⟨w.heap.size + 2, 0, none⟩)] (enters _ (by kernel_rfl)) w0
    (fun c w2 => ∃ w1, Below (w.heap.size + 3) w0 w1 ∧ w1.heap.size = w.heap.size + 4 ∧ GotM l (w.heap.size + 2) w1 c w2)
    (fun w1 hb hs => by
      rw [hs0] at hb hs
      have hb' : Below w0.heap.size w0 w1 := by rw [hs0]; exact hb
      refine (mget1_any w.heap.size (w.heap.size + 2) a len cap l w1 (B1.keep hb') (B3.keep hb') ((hx.below (Nat.le_refl _) hb0).below (Nat.le_refl _) hb') hl).mono ?_
      rintro e w2 ⟨c, hg, hgot⟩
      refine ⟨c, hg, ⟨w1, hb, hs, hgot⟩, hgot.1.size, ?_⟩
      rw [hs0]
      exact hgot.1.block _ (by omega) (by omega))
  have HC := Lib.hid hC
  have HB0 := Lib.hid hb0
  have HS0 := Lib.hid hs0
  have HB2 := Lib.hid B2
  have HW0 := Lib.hid hw0
  clear hx hl hb0 hs0 B1 B2 B3 hC hw0
  go_enter Try.func15, Try.ntmps15
  go_wp2_with fail
  have e0 : w0 = ((w.alloc (.cells #[.slice a len cap] 25)).alloc (.cells #[.int .i64 0, .int .u64 0, .int .u64 0, .int .u64 0, .int .u64 0, .int .u64 0, .int .u64 0, .int .u64 0, .bool false, .slice none 0 0, .slice none 0 0, .slice none 0 0] 27)).alloc (.cells #[.int .i64 0, .int .u64 0, .int .u64 0, .int .u64 0, .int .u64 0, .int .u64 0, .int .u64 0, .int .u64 0, .bool false, .slice none 0 0, .slice none 0 0, .slice none 0 0] 27) := HW0.out
  rw [← e0]
  clear e0 HW0
  refine HC.out.mono ?_
  rintro e w3 ⟨c, w2, ⟨w1, hb1, hs1, h1, h2, h3⟩, rfl, hsz, ho⟩
  rw [HS0.out] at hsz ho
  have hbw : Below w.heap.size w w2 := (HB0.out.trans (hb1.mono (by omega))).trans (h1.below (fun k hk h => by have h : k = w.heap.size + 2 := h; omega) (by omega))
  have hb3 : Below w.heap.size w w3 := hbw.trans (ho.below (fun k hk h => by have h : k = w.heap.size + 3 := h; omega) (by omega))
  have HB3 := Lib.hid hb3
  have HR3 := Lib.hid (show Blk w3 (w.heap.size + 1) 27 zeroM from ((HB2.out.keep (by rw [HS0.out]; exact hb1)).onlyS h1 (by omega)).onlyS ho (by omega))
  have hs3 : w.heap.size + 4 ≤ w3.heap.size := Nat.le_trans hsz ho.size
  obtain ⟨m, hm⟩ : ∃ m, m = (getM l).1 := ⟨_, rfl⟩
  obtain ⟨d, hd⟩ : ∃ d, d = (getM l).2 := ⟨_, rfl⟩
  have HM := Lib.hid hm
  have HD := Lib.hid hd
  rw [← hm] at h3
  rw [← hd] at h2
  subst h2
  by_cases h0 : d = 0
  · subst h0
    obtain ⟨ve, vm, vg, us, hT, hst⟩ := h3 rfl
    have HT := Lib.hid (show Blk w3 (w.heap.size + 2) 27 (mgC m ve vm vg) from hT.onlyS ho (by omega))
    have hfar : MFar w3 (w.heap.size + 4) m ve vm vg us := fun W hW => hst W fun k hk hl _ => by
      have e : k ≠ w.heap.size + 3 := by omega
      rw [hW k (by omega) (Nat.lt_of_lt_of_le hl ho.size), ho.block k hl e]
    have HF := Lib.hid hfar
    have HL := Lib.hid (Blk.loads (P := Try.prog) HT.out 27 _ Try.underlying27 rfl (mgC_info m ve vm vg))
    clear h1 h3 hbw hb1 hs1 ho hb3 hT hst hfar hm hd HC HB0 HS0 HB2
    go_wp2_with (first
      | (refine wpList_load_by rfl 27 (.tmp 4) rfl _ _ rfl HL.out ?_)
      | (refine wpList_store_all rfl 27 (.tmp 2) (.tmp 12) rfl (w.heap.size + 1) (mgC m ve vm vg) rfl rfl 27 zeroM HR3.out (mgC_info m ve vm vg) rfl (mgC_one HF.out.has) ?_; intro wz hb ho; (have HZ := Lib.hid hb); (have HO := Lib.hid ho); clear hb ho))
    refine bodyPost_ret (v := .tuple #[.agg (mgC m ve vm vg), .int .i64 0]) (ret_msg rfl _ _ (w.heap.size + 1) (mgC m ve vm vg) _ rfl rfl rfl HZ.out) rfl ?_
    unfold MGot
    rw [← HM.out, ← HD.out]
    refine ⟨ve, vm, vg, us, rfl, fun W hW => HF.out W fun k hk hl => ?_, HB3.out.trans (HO.out.below (fun k hk e => by have e : k = w.heap.size + 1 := e; omega) (by omega))⟩
    have e : k ≠ w.heap.size + 1 := by omega
    rw [hW k (by omega) (Nat.lt_of_lt_of_le hl HO.out.size), HO.out.block k hl e]
  · have q : ((d : Int) != 0) = true := by simpa using h0
    have HZm := Lib.hid (show m = Mg.zero by
      rw [HM.out]
      have h4 := HD.out
      unfold getM at h4 ⊢
      cases hg : gMsg l with
      | error c => rfl
      | ok p =>
        obtain ⟨x, r⟩ := p
        rw [hg] at h4
        simp only at h4 ⊢
        split
        · rename_i hrn
          rw [if_pos hrn] at h4
          exact absurd h4 h0
        · rfl)
    clear h1 h3 hbw hb1 hs1 ho hb3 h0 hm hd HC HB0 HS0 HB2
    go_wp2_with (refine wpList_store_all rfl 27 (.tmp 2) (.tmp 10) rfl (w.heap.size + 1) zeroM rfl rfl 27 zeroM HR3.out (by kernel_rfl) rfl (by simp [zeroM, mgC, Mg.zero, Value.oneCell']) ?_; intro wz hb ho; (have HZ := Lib.hid hb); (have HO := Lib.hid ho); clear hb ho)
    refine bodyPost_ret (v := .tuple #[.agg zeroM, .int .i64 (d : Int)]) (ret_msg rfl _ _ (w.heap.size + 1) zeroM _ rfl rfl rfl HZ.out) rfl ?_
    unfold MGot
    rw [← HM.out, ← HD.out, HZm.out]
    exact ⟨.slice none 0 0, .slice none 0 0, .slice none 0 0, [], rfl, fun W _ => MHas.zero W, HB3.out.trans (HO.out.below (fun k hk e => by have e : k = w.heap.size + 1 := e; omega) (by omega))⟩
end Go.Proofs.Ytidapdooiibfnaa

/- Layer 18: all that the landed msg answers. -/
namespace Go.Proofs.Ytidapdooiibfnaa
set_option maxRecDepth 20000

theorem msgProg : MsgProg :=
  ⟨msgFormed_any, msgPut_any, fun v len c l w hx hl _ => msgGet_any v len c l w hx hl, msgSame_any⟩
end Go.Proofs.Ytidapdooiibfnaa

