/- Joined: MsgGetKit, MsgRefGetA, MsgGetKit2, MsgPut, NetSend, NetMsgs, NetRefAt. -/
import Derived.Test.YtgbhfolbkgibfaaLAW
import Derived.Test.YtgbhfolbkgibfaaLAO
import Derived.Test.YtgbhfolbkgibfaaMsgBareL
import Derived.Test.YtgbhfolbkgibfaaLAU
import Derived.Test.YtgbhfolbkgibfaaLAV
import Derived.Test.YtgbhfolbkgibfaaLAP
import Derived.Test.YtgbhfolbkgibfaaLAQ
import Derived.Test.YtgbhfolbkgibfaaLAB
/- Layer 18's reference: what Get has in memory while it reads. -/
namespace Go.Proofs.Ytgbhfolbkgibfaa
set_option maxRecDepth 20000
open Go.RowKit BinMath CmdMath Reg
open MsgMath (Mg St codeS thru tag gRange gYes getM gMsg)

theorem ret_msg {fn : Func} {p u : Tmp} (h : fn.results = #[.cell p 36, .tmp u]) (tmps : Array Value) (W : World) (g : Nat) (cs : Array Value) (c : Value) (hs : cs.size = 12) (hp : tmps.getD p undef = .pointer (some ⟨g, 0, none⟩)) (hc : tmps.getD u undef = c) (hb : Blk W g 36 cs) :
    (results fn tmps).run Try.prog W = .ok (.tuple #[.agg cs, c]) W := by
  have h6 : (Try.prog.info? 36).map (·.size) = some 12 := by kernel_rfl
  have hl := run_loadVar_row (P := Try.prog) W g 36 36 cs (0, 0) _ hb Try.underlying36 rfl (by rw [hs]; exact h6)
  have hp' : tmps[p]?.getD undef = .pointer (some ⟨g, 0, none⟩) := by simpa using hp
  have hc' : tmps[u]?.getD undef = c := by simpa using hc
  simp only [results, h]
  simp [Result.andThen, hp', hc', asAddr, hl]

end Go.Proofs.Ytgbhfolbkgibfaa

/- Layer 18's reference: Get. -/
namespace Go.Proofs.Ytgbhfolbkgibfaa
set_option maxRecDepth 20000
open Go.RowKit BinMath CmdMath Reg
open MsgMath (Mg St codeS thru tag gRange gYes getM gMsg)

end Go.Proofs.Ytgbhfolbkgibfaa

/- Layer 18's reference: entries that are read one behind the other. -/
namespace Go.Proofs.Ytgbhfolbkgibfaa
set_option maxRecDepth 20000
open Go.RowKit BinMath CmdMath Reg
open MsgMath (Mg St codeS thru tag gRange gYes getM gMsg)

theorem ERow.only {w w' : World} {B : Nat} {v : Value} {us : List EE} {S : Nat → Prop} (h : ERow w B v us) (ho : OnlyS S w w') (hS : ∀ k, B ≤ k → ¬ S k) : ERow w' B v us := h.to fun k hk hl => ho.block k hl (hS k hk)
theorem EMine.only {w w' : World} {B : Nat} {us : List EE} {S : Nat → Prop} (h : EMine w B us) (ho : OnlyS S w w') (hS : ∀ k, B ≤ k → ¬ S k) : EMine w' B us := h.to fun k hk hl => ho.block k hl (hS k hk)
theorem ERow.below {w w' : World} {B : Nat} {v : Value} {us : List EE} (h : ERow w B v us) (hb : Below w.heap.size w w') : ERow w' B v us := h.to fun k _ hl => hb.block k hl
theorem EMine.below {w w' : World} {B : Nat} {us : List EE} (h : EMine w B us) (hb : Below w.heap.size w w') : EMine w' B us := h.to fun k _ hl => hb.block k hl

theorem rows_apart {w : World} {B1 B2 e1 e2 s1 s2 n1 n2 : Nat} {v1 v2 : Value} {xs1 xs2 : List Value} (h1 : w.ownsRow B1 e1 s1 v1 n1 xs1) (h2 : w.ownsRow B2 e2 s2 v2 n2 xs2) (hne : e1 ≠ e2) (k : Nat) (hk : v1.ownBlock = some k) : v2.ownBlock ≠ some k := by
  intro e
  rcases h2.2 with ⟨rfl, _⟩ | ⟨g, cap, cur, rfl, hB, hg, _⟩
  · simp [Value.ownBlock] at e
  · have e2 : g = k := by simpa [Value.ownBlock] using e
    subst e2
    exact ownsRow_apart h1 (show Blk w g e2 cur from hg) hne hk

/-- An entry's slices stay where the list that holds it grows. -/
theorem EMine.grown {w w' : World} {B B' : Nat} {v : Value} {us vs : List EE} (h : EMine w B us) (hr : ERow w B' v vs) (hg : w.grownBy w' v.ownBlock) : EMine w' B us := fun u hu => by
  have h1 := h u hu
  exact ⟨h1.ok, row_to h1.d fun k e => hg.block k (World.ownsRow.lt h1.d k e).2 (fun e2 => rows_apart h1.d hr (by decide) k e e2.symm), h1.m.to fun k e => hg.block k (World.ownsRow.lt h1.m k e).2 (fun e2 => rows_apart h1.m hr (by decide) k e e2.symm), h1.dl, h1.ml⟩
theorem row_cap {w : World} {B : Nat} {v : Value} {l : List UInt8} (h : Row w B v l) : ∃ a c, v = .slice a l.length c ∧ l.length ≤ c := by
  rcases h.2 with ⟨rfl, h1⟩ | ⟨g, cap, cur, rfl, hB, hg, hn, -⟩
  · exact ⟨none, 0, by rw [h1], by omega⟩
  · exact ⟨_, _, rfl, hn⟩
end Go.Proofs.Ytgbhfolbkgibfaa

/- Layer 18: Put, and Formed. -/
namespace Go.Proofs.Ytgbhfolbkgibfaa
set_option maxRecDepth 20000
open Go.RowKit Go.Maps BinMath CmdMath Reg
open MsgMath (Mg Hand wrH walkH formedM putM)

/-! ### What a message leads to, where its blocks are the same -/

theorem Bys.agree {w W : World} {v : Value} {l : List UInt8} (h : Bys w v l) (ha : ∀ k, k < w.heap.size → W.heap[k]? = w.heap[k]?) : Bys W v l := by
  rcases h with h | ⟨ad, cap, hv, hc⟩
  · exact .inl h
  · exact .inr ⟨ad, cap, hv, fun i hi => by
      have h1 := hc i hi
      rw [World.cell?_of_block (w := w) (ha _ (World.block_lt_of_cell? w _ h1))]
      exact h1⟩
theorem Nums.agree {w W : World} {v : Value} {l : List Nat} (h : Nums w v l) (ha : ∀ k, k < w.heap.size → W.heap[k]? = w.heap[k]?) : Nums W v l := by
  rcases h with h | ⟨ad, cap, hv, hl, hc⟩
  · exact .inl h
  · exact .inr ⟨ad, cap, hv, hl, fun i hi => by
      have h1 := hc i hi
      rw [World.cell?_of_block (w := w) (ha _ (World.block_lt_of_cell? w _ h1))]
      exact h1⟩
theorem Els.agree {w W : World} {v : Value} {us : List EE} (h : Els w v us) (ha : ∀ k, k < w.heap.size → W.heap[k]? = w.heap[k]?) : Els W v us := by
  rcases h with h | ⟨ad, cap, hv, hl, hc⟩
  · exact .inl h
  · exact .inr ⟨ad, cap, hv, hl, fun j u hj => by
      have h1 := hc j u hj
      rw [World.cell?_of_block (w := w) (ha _ (World.block_lt_of_cell? w _ h1))]
      exact h1⟩
theorem MHas.agree {w W : World} {m : Mg} {ve vm vg : Value} {us : List EE} (h : MHas w m ve vm vg us) (ha : ∀ k, k < w.heap.size → W.heap[k]? = w.heap[k]?) : MHas W m ve vm vg us :=
  ⟨h.ok, h.els.agree ha, fun u hu => ⟨(h.all u hu).ok, (h.all u hu).d.agree ha, (h.all u hu).m.agree ha, (h.all u hu).dl, (h.all u hu).ml⟩, h.ents, h.ms.agree ha, h.gs.agree ha, h.ul, h.ml, h.gl⟩

/-- What Put's closure leaves: L is the writer, T the message that is told, E the error of the one that calls it. -/
def PutGot (L T E : Nat) (m : Mg) (w : World) (c : Int) (w' : World) : Prop :=
  OnlyS (fun k => k = L ∨ k = T) w w' ∧ match walkH wrH m [] with
  | .error d => c = (d : Int) ∧ d ≠ 0
  | .ok (t, l) => c = 0 ∧ ∃ (U : Nat → Prop) (ve vm vg : Value) (us : List EE), WrI L w.heap.size w' U l ∧ (∀ k, U k → k = L ∨ w.heap.size ≤ k) ∧ Blk w' T 36 (mgC t ve vm vg) ∧ Stay w' (fun k => U k ∨ k = T ∨ k = E) 0 (fun W => MHas W t ve vm vg us)

set_option maxHeartbeats 2000000 in
theorem put1_any (L M T E : Nat) (m : Mg) (ve vm vg : Value) (us : List EE) (w : World) (hL : Blk w L 79 #[.slice none 0 0]) (hM : Blk w M 36 (mgC m ve vm vg)) (hT : Blk w T 36 zeroM) (hLT : ¬ L = T) (hE : E < w.heap.size) (hm : Stay w (fun k => k = L ∨ k = T ∨ k = E) 0 (fun W => MHas W m ve vm vg us)) :
    Calls Try.prog 36 #[.pointer (some ⟨L, 0, none⟩), .pointer (some ⟨M, 0, none⟩), .pointer (some ⟨T, 0, none⟩)] w fun e w' => ∃ c, Gives c e ∧ PutGot L T E m w c w' := by
  have hI : WrI L w.heap.size w (fun k => k = L) [] := ⟨.slice none 0 0, hL, World.ownsRow_nil _ _ _ _, fun k => ⟨.inl, fun h => h.elim id fun h => by simp [Value.ownBlock] at h⟩, hL.lt, Nat.le_refl _⟩
  have HW := Lib.hid (walk_any (writer_hand L w.heap.size) (fun k => k = T ∨ k = E) m ve vm vg us hI (fun k hk => hk.elim (fun e => e ▸ hT.lt) (fun e => e ▸ hE)) hm (by simp))
  have HLd := Lib.hid (Blk.loads (P := Try.prog) hM 36 _ Try.underlying36 rfl (mgC_info m ve vm vg))
  have HT := Lib.hid hT
  have HLT := Lib.hid hLT
  clear hL hM hT hm hI hLT
  cases hr : walkH wrH m [] with
  | error d =>
    have HR := Lib.hid hr
    clear hr
    go_enter Try.func36, Try.ntmps36
    go_wp2_with (refine wpList_load_by rfl 36 (.tmp 1) rfl _ _ rfl HLd.out ?_)
    refine HW.out.mono ?_
    intro e w2 h
    obtain ⟨ho, hc, rfl⟩ := h.err HR.out
    refine ⟨rfl, (d : Int), ⟨fun h => absurd h (by omega), fun _ => rfl⟩, ho.mono (fun _ _ e => .inl e), ?_⟩
    rw [HR.out]
    exact ⟨rfl, hc⟩
  | ok p =>
    obtain ⟨t, l⟩ := p
    have HR := Lib.hid hr
    clear hr
    go_enter Try.func36, Try.ntmps36
    go_wp2_with (refine wpList_load_by rfl 36 (.tmp 1) rfl _ _ rfl HLd.out ?_)
    refine HW.out.mono ?_
    intro e w2 h
    obtain ⟨y, U, rfl, ho, ⟨ve', vm', vg', us', rfl, hst⟩, hI, hU, -⟩ := h.ok HR.out
    have HT2 := Lib.hid (HT.out.onlyS ho (fun e => HLT.out e.symm))
    have HUT := Lib.hid (show ¬ U T from fun e => by
      have := HT.out.lt
      rcases hU T e with e | e
      · exact HLT.out e.symm
      · omega)
    have HI := Lib.hid hI
    have HU := Lib.hid hU
    have HS := Lib.hid (hst.imp fun _ h => h.1)
    have HO := Lib.hid ho
    clear h ho hst hI hU HLd
    go_wp2_with (refine wpList_store_all rfl 36 (.tmp 2) (.tmp 5) rfl T (mgC t ve' vm' vg') rfl rfl 36 zeroM HT2.out (mgC_info t ve' vm' vg') rfl (mgC_one HS.out.now) ?_; intro w3 hb ho; (have HB := Lib.hid hb); (have HO3 := Lib.hid ho); clear hb ho)
    go_end0
    refine ⟨0, ⟨fun _ => rfl, fun h => absurd rfl h⟩, (HO.out.mono (fun _ _ e => .inl e)).then HO3.out (fun _ _ e => .inr e), ?_⟩
    rw [HR.out]
    exact ⟨rfl, U, ve', vm', vg', us', HI.out.keep HO3.out (fun k _ e => by have e : k = T := e; subst e; exact HUT.out), HU.out, HB.out, HS.out.step HO3.out (fun _ _ e => .inr (.inl e)) (fun _ _ e => e)⟩

set_option maxHeartbeats 2000000 in
theorem msgPut_own (m : Mg) (ve vm vg : Value) (us : List EE) (w : World) (hm : MHas w m ve vm vg us) :
    Calls Try.prog 27 #[.agg (mgC m ve vm vg)] w (MPutOwn (putMR m).1 (putMR m).2 w) := by
  have hmf : ∀ (fn : Fn) (first cap : Array Value) (w : World), (Instr.makeFunc fn first cap).run Try.prog w = .ok (.func fn first cap) w := fun _ _ _ _ => rfl
  obtain ⟨w0, hw0⟩ : ∃ w0, w0 = ((w.alloc (.cells (mgC m ve vm vg) 36)).alloc (.cells #[.slice none 0 0] 79)).alloc (.cells zeroM 36) := ⟨_, rfl⟩
  have hb0 : Below w.heap.size w w0 := by rw [hw0]; exact (((Below.refl _ _).alloc (Nat.le_refl _) _).alloc (by simp) _).alloc (by simp only [World.size_alloc]; omega) _
  have hs0 : w0.heap.size = w.heap.size + 3 := by rw [hw0]; simp
  have B1 : Blk w0 w.heap.size 36 (mgC m ve vm vg) := by rw [hw0]; exact ((Blk.new w _ _).alloc _).alloc _
  have B2 : Blk w0 (w.heap.size + 1) 79 #[.slice none 0 0] := by
    rw [hw0]
    exact (Blk.newAt (w.alloc (.cells (mgC m ve vm vg) 36)) 79 _ _ (w.heap.size + 1) (by simp) rfl).alloc _
  have B3 : Blk w0 (w.heap.size + 2) 36 zeroM := by
    rw [hw0]
    exact Blk.newAt ((w.alloc (.cells (mgC m ve vm vg) 36)).alloc (.cells #[.slice none 0 0] 79)) 36 _ _ (w.heap.size + 2) (by simp) rfl
  have hC := caught_any 36 #[] #[.pointer (some ⟨w.heap.size + 1, 0, none⟩), .pointer (some ⟨w.heap.size, 0, none⟩), .pointer (some ⟨w.heap.size + 2, 0, none⟩)] (enters _ (by kernel_rfl)) w0
    (fun c w2 => ∃ w1, Below (w.heap.size + 3) w0 w1 ∧ w1.heap.size = w.heap.size + 4 ∧ PutGot (w.heap.size + 1) (w.heap.size + 2) (w.heap.size + 3) m w1 c w2)
    (fun w1 hb hs => by
      rw [hs0] at hb hs
      have hb' : Below w0.heap.size w0 w1 := by rw [hs0]; exact hb
      refine (put1_any (w.heap.size + 1) w.heap.size (w.heap.size + 2) (w.heap.size + 3) m ve vm vg us w1 (B2.keep hb') (B1.keep hb') (B3.keep hb') (by omega) (by omega) (fun W hW => hm.agree fun k hk => ?_)).mono ?_
      · rw [hW k (Nat.zero_le _) (by omega) (by omega), hb'.block k (by omega), hb0.block k hk]
      rintro e w2 ⟨c, hg, hgot⟩
      refine ⟨c, hg, ⟨w1, hb, hs, hgot⟩, hgot.1.size, ?_⟩
      rw [hs0]
      exact hgot.1.block _ (by omega) (by omega))
  have HC := Lib.hid hC
  have HB0 := Lib.hid hb0
  have HS0 := Lib.hid hs0
  have HB1 := Lib.hid B1
  have HW0 := Lib.hid hw0
  have HM := Lib.hid hm
  clear hm hb0 hs0 B1 B2 B3 hC hw0
  go_enter Try.func27, Try.ntmps27
  go_wp2_with fail
  have e0 : w0 = ((w.alloc (.cells (mgC m ve vm vg) 36)).alloc (.cells #[.slice none 0 0] 79)).alloc (.cells #[.int .i64 0, .int .u64 0, .int .u64 0, .int .u64 0, .int .u64 0, .int .u64 0, .int .u64 0, .int .u64 0, .bool false, .slice none 0 0, .slice none 0 0, .slice none 0 0] 36) := HW0.out
  rw [← e0]
  clear e0 HW0
  refine HC.out.mono ?_
  rintro e w3 ⟨c, w2, ⟨w1, hb1, hs1, h1, h2⟩, rfl, hsz, ho⟩
  rw [HS0.out] at hsz ho
  have hbw : Below w.heap.size w w2 := (HB0.out.trans (hb1.mono (by omega))).trans (h1.below (fun k hk h => by omega) (by omega))
  have hb3 : Below w.heap.size w w3 := hbw.trans (ho.below (fun k hk h => by have h : k = w.heap.size + 3 := h; omega) (by omega))
  have HB3 := Lib.hid hb3
  have hs3 : w.heap.size + 4 ≤ w3.heap.size := Nat.le_trans hsz ho.size
  cases hr : walkH wrH m [] with
  | error d =>
    rw [hr] at h2
    obtain ⟨rfl, hd⟩ := h2
    have HP := Lib.hid (show putMR m = ([], 1) by unfold putMR; rw [if_neg (by rw [MsgMath.put_lost HM.out.ok hr]; simp)])
    have q : ((d : Int) != 0) = true := by simpa using hd
    clear hr hbw hb1 hs1 h1 ho hb3 hd
    go_wp2
    go_ret2
    rw [HP.out]
    exact ⟨none, 0, rfl, World.ownsRow_nil _ _ _ _, Nat.le_refl _, HB3.out⟩
  | ok p =>
    obtain ⟨t, l⟩ := p
    rw [hr] at h2
    obtain ⟨rfl, U, ve', vm', vg', us', hI, hUk, hT, hst⟩ := h2
    have hB1 : Blk w3 w.heap.size 36 (mgC m ve vm vg) := ((HB1.out.keep (by rw [HS0.out]; exact hb1)).onlyS h1 (by omega)).onlyS ho (by omega)
    have hT3 : Blk w3 (w.heap.size + 2) 36 (mgC t ve' vm' vg') := hT.onlyS ho (by omega)
    have hI3 : WrI (w.heap.size + 1) w1.heap.size w3 U l := hI.keep ho (fun k hk e hu => by
      have e : k = w.heap.size + 3 := e
      rcases hUk k hu with h | h <;> omega)
    have hmt : MHas w3 t ve' vm' vg' us' := (hst.step ho (fun _ _ e => .inr (.inr e)) (fun _ _ e => e)).now
    have hmm : MHas w3 m ve vm vg us := HM.out.below (Nat.le_refl _) hb3
    obtain ⟨v, hL, hrow, -, -, -⟩ := hI3
    obtain ⟨va, vc, rfl, hvc⟩ := row_cap hrow
    have HSame := Lib.hid (msgSame_any t m ve' vm' vg' ve vm vg us' us w3 hmt hmm)
    have HLT := Lib.hid (Blk.loads (P := Try.prog) hT3 36 _ Try.underlying36 rfl (mgC_info t ve' vm' vg'))
    have HLM := Lib.hid (Blk.loads (P := Try.prog) hB1 36 _ Try.underlying36 rfl (mgC_info m ve vm vg))
    have HL := Lib.hid hL
    have HRow := Lib.hid hrow
    have HLow := Lib.hid (show w.heap.size ≤ w1.heap.size by omega)
    have HVc := Lib.hid hvc
    obtain ⟨ln, hln⟩ : ∃ ln, ln = l.length := ⟨_, rfl⟩
    rw [← hln] at HL HRow HVc
    have HLn := Lib.hid hln
    clear hbw hb1 hs1 h1 ho hb3 hB1 hT3 hI hst hT hmt hmm hL hrow hvc hln hUk HC HB0 HS0 HB1
    rcases MsgMath.put_walk HM.out.ok hr with ⟨rfl, hf, rfl⟩ | ⟨hne, hf⟩
    · have HP := Lib.hid (show putMR t = (putM t, 0) by unfold putMR; rw [if_pos hf])
      rw [decide_eq_true rfl] at HSame
      clear hr hf
      go_wp2_with (first
        | (refine wpList_load_guarded rfl 36 (.tmp 5) rfl _ _ rfl HLT.out ?_)
        | (refine wpList_load_guarded rfl 36 (.tmp 1) rfl _ _ rfl HLM.out ?_))
      refine HSame.out.mono ?_
      rintro e w4 ⟨rfl, hb4⟩
      have HB4 := Lib.hid (HB3.out.trans (hb4.mono (by omega)))
      have HRow4 := Lib.hid (row_low (HRow.out.below hb4) HLow.out)
      have kL : w4.cell? ⟨w.heap.size + 1, 0, none⟩ = some (.slice va ln vc) := by rw [(HL.out.keep hb4).cell]; rfl
      clear hb4
      go_wp2
      go_ret2
      rw [HP.out]
      have hln := HLn.out
      subst hln
      exact ⟨va, vc, rfl, HRow4.out, HVc.out, HB4.out⟩
    · have HP := Lib.hid (show putMR m = ([], 1) by unfold putMR; rw [if_neg (by rw [hf]; simp)])
      rw [decide_eq_false hne] at HSame
      clear hr hf hne
      go_wp2_with (first
        | (refine wpList_load_guarded rfl 36 (.tmp 5) rfl _ _ rfl HLT.out ?_)
        | (refine wpList_load_guarded rfl 36 (.tmp 1) rfl _ _ rfl HLM.out ?_))
      refine HSame.out.mono ?_
      rintro e w4 ⟨rfl, hb4⟩
      have HB4 := Lib.hid (HB3.out.trans (hb4.mono (by omega)))
      clear hb4
      go_wp2
      go_ret2
      rw [HP.out]
      exact ⟨none, 0, rfl, World.ownsRow_nil _ _ _ _, Nat.le_refl _, HB4.out⟩

end Go.Proofs.Ytgbhfolbkgibfaa

/- Layer 19: Send of the landed net. -/
namespace Go.Proofs.Ytgbhfolbkgibfaa
set_option maxRecDepth 20000
open Go.RowKit Go.Maps BinMath NetMath
open MsgMath (Mg formedM putM getM)

/-- What a call leaves that is made behind another one, which made new blocks only. -/
theorem NetEnd.behind {w w1 w2 : World} {P : Nat} {U U1 : Nat → Prop} {n : Nt} {p : Ending → World → Prop} {e : Ending} (h : NetEnd IsNet P U1 n w1 p e w2) (hb : Below w.heap.size w w1) (h1 : ∀ k, U1 k → U k ∨ w.heap.size ≤ k) : NetEnd IsNet P U n w p e w2 := by
  obtain ⟨h2, h3, U2, h4, h5⟩ := h
  refine ⟨h2, (OnlyS.of_below (S := U) hb fun k hk _ => hk).then h3 fun k hk e => (h1 k e).elim id fun e2 => absurd hk (by omega), U2, h4, fun k hk => ?_⟩
  rcases h5 k hk with e | e
  · exact h1 k e
  · exact .inr (Nat.le_trans hb.size e)
theorem NIs.end_ {w w1 : World} {P : Nat} {U : Nat → Prop} {n : Nt} {m : Nat} {v : Value} {ts : List (Value × Mg)} (h : NIs w P n U m v ts) (hb : Below w.heap.size w w1) {p : Ending → World → Prop} {e : Ending} (hp : p e w1) : NetEnd IsNet P U n w p e w1 :=
  ⟨hp, OnlyS.of_below (S := U) hb fun _ hk _ => hk, U, ⟨m, v, ts, h.keep (OnlyS.of_below (S := fun _ => False) hb fun _ hk _ => hk) fun _ _ e => e.elim⟩, fun _ e => .inl e⟩

set_option maxHeartbeats 4000000 in
theorem nsend_any {w : World} {P : Nat} {n : Nt} {U : Nat → Prop} {m : Nat} {v : Value} {ts : List (Value × Mg)} (h : NIs w P n U m v ts) (mg : Mg) (ve vm vg : Value) (us : List EE) (hm : MHas w mg ve vm vg us) :
    Calls Try.prog 10 #[np P, .agg (mgC mg ve vm vg)] w (NetEnd IsNet P U (n.send mg).2 w fun e _ => e = .returned (.int .i64 ((n.send mg).1 : Int))) := by
  obtain ⟨w0, hw0⟩ : ∃ w0, w0 = w.alloc (.cells (mgC mg ve vm vg) 36) := ⟨_, rfl⟩
  have hb0 : Below w.heap.size w w0 := by rw [hw0]; exact (Below.refl _ _).alloc (Nat.le_refl _) _
  have HK := Lib.hid (show Blk w0 w.heap.size 36 (mgC mg ve vm vg) by rw [hw0]; exact Blk.new w _ _)
  have HP := Lib.hid (msgPut_own mg ve vm vg us w0 (hm.below (Nat.le_refl _) hb0))
  have HLd := Lib.hid (Blk.loads (P := Try.prog) HK.out 36 _ Try.underlying36 rfl (mgC_info mg ve vm vg))
  have HB0 := Lib.hid hb0
  have HOk := Lib.hid hm.ok
  have HH := Lib.hid h
  have HW0 := Lib.hid hw0
  clear hm h hb0 hw0
  cases hf : formedM mg with
  | false =>
    have e1 : putMR mg = ([], 1) := by unfold putMR; rw [hf]; rfl
    have e2 : n.send mg = (1, n) := by unfold Nt.send; rw [if_pos hf]
    rw [e1] at HP
    rw [e2]
    clear hf e1 e2
    go_enter Try.func10, Try.ntmps10
    go_wp2_with (rw [← HW0.out]; refine wpList_load_by rfl 36 (.tmp 3) rfl _ _ rfl HLd.out ?_)
    refine HP.out.mono ?_
    rintro e w2 ⟨a, k, rfl, -, -, hb⟩
    have HB2 := Lib.hid (HB0.out.trans (hb.mono HB0.out.size))
    clear hb
    go_wp2
    go_ret
    exact HH.out.end_ HB2.out rfl
  | true =>
    have e1 : putMR mg = (putM mg, 0) := by unfold putMR; rw [hf]; rfl
    have HF := Lib.hid hf
    rw [e1] at HP
    clear hf e1
    go_enter Try.func10, Try.ntmps10
    go_wp2_with (rw [← HW0.out]; refine wpList_load_by rfl 36 (.tmp 3) rfl _ _ rfl HLd.out ?_)
    refine HP.out.mono ?_
    rintro e w2 ⟨a, k, rfl, hr, hlk, hb⟩
    have HB2 := Lib.hid (HB0.out.trans (hb.mono HB0.out.size))
    have hi2 : NIs w2 P n U m v ts := (HH.out.keep (OnlyS.of_below (S := fun _ => False) HB2.out fun _ hk _ => hk) fun _ _ e => e.elim)
    have HI2 := Lib.hid hi2
    have HT := Lib.hid (show Txt w2 (.slice a (putM mg).length k) mg from ⟨HOk.out, HF.out, a, k, rfl, hlk, row_low hr (Nat.zero_le _)⟩)
    have HTb := Lib.hid (show ∀ j, (Value.slice a (putM mg).length k).ownBlock = some j → w.heap.size ≤ j ∧ j < w2.heap.size from fun j e => ⟨Nat.le_trans HB0.out.size (World.ownsRow.lt hr j e).1, (World.ownsRow.lt hr j e).2⟩)
    have hk2 := HK.out.keep hb
    have c1 : w2.cell? ⟨w.heap.size, 1, none⟩ = some (.int .u64 (mg.f : Int)) := by rw [hk2.cell]; rfl
    have c2 : w2.cell? ⟨w.heap.size, 2, none⟩ = some (.int .u64 (mg.o : Int)) := by rw [hk2.cell]; rfl
    have HBl := Lib.hid (nblocked_any hi2 mg.f mg.o HOk.out.f HOk.out.o)
    obtain ⟨lx, hlx⟩ : ∃ l, l = (putM mg).length := ⟨_, rfl⟩
    rw [← hlx] at HT HTb ⊢
    clear hb hi2 hr hlk hk2 hlx HP HK
    cases hbl : n.blocked mg.f mg.o with
    | true =>
      have e2 : n.send mg = (6, n) := by unfold Nt.send; rw [if_neg (by rw [HF.out]; simp), if_pos hbl]
      have HE6 := Lib.hid e2
      rw [hbl] at HBl
      clear e2 hbl
      go_wp2_with fail
      refine HBl.out.mono ?_
      rintro e w3 ⟨rfl, hb⟩
      have HB3 := Lib.hid (HB2.out.trans (hb.mono HB2.out.size))
      clear hb c1 c2
      go_wp2
      go_ret
      rw [HE6.out]
      exact HH.out.end_ HB3.out rfl
    | false =>
      have e2 : n.send mg = if 256 ≤ n.L.length then (7, n) else (0, ⟨n.L ++ [mg], n.W⟩) := by unfold Nt.send; rw [if_neg (by rw [HF.out]; simp), if_neg (by rw [hbl]; simp)]
      have HE := Lib.hid (show ∀ e w', NetEnd IsNet P U (if 256 ≤ n.L.length then n else ⟨n.L ++ [mg], n.W⟩) w (fun e _ => e = .returned (.int .i64 (if 256 ≤ n.L.length then 7 else 0))) e w' → NetEnd IsNet P U (n.send mg).2 w (fun e _ => e = .returned (.int .i64 ((n.send mg).1 : Int))) e w' from fun e w' hh => by
        rw [e2]
        by_cases hf : 256 ≤ n.L.length
        · simp only [if_pos hf] at hh ⊢; exact hh
        · simp only [if_neg hf] at hh ⊢; exact hh)
      rw [hbl] at HBl
      clear e2 hbl
      go_wp2_with fail
      refine HBl.out.mono ?_
      rintro e w3 ⟨rfl, hb⟩
      have HB3 := Lib.hid (HB2.out.trans (hb.mono HB2.out.size))
      have hT3 := HT.out.to fun j e => hb.block j (HTb.out j e).2
      have hi3 := (HI2.out.keep (OnlyS.of_below (S := fun _ => False) hb fun _ hk _ => hk) fun _ _ e => e.elim).widen (U' := fun j => U j ∨ w.heap.size ≤ j ∧ j < w3.heap.size) (fun j e => .inl e) (fun j e => e.elim (fun e => Nat.lt_of_lt_of_le (HI2.out.ul j e) hb.size) (fun e => e.2))
      have HA := Lib.hid (nadd_any hi3 hT3 fun j e => .inr ⟨(HTb.out j e).1, Nat.lt_of_lt_of_le (HTb.out j e).2 hb.size⟩)
      clear hb c1 c2 hT3 hi3
      go_wp2_with fail
      refine HA.out.mono ?_
      intro e w4 hh
      have HE2 := Lib.hid (HE.out _ _ (hh.behind HB3.out fun k hk => hk.imp id fun e => e.1))
      obtain rfl := hh.1
      clear hh
      obtain ⟨z, hz⟩ : ∃ z : Int, z = if 256 ≤ n.L.length then 7 else 0 := ⟨_, rfl⟩
      rw [← hz] at HE2 ⊢
      clear hz
      go_wp2
      go_ret
      exact HE2.out
end Go.Proofs.Ytgbhfolbkgibfaa

/- Messages in a row: a message and where its slices lie, lists of them. -/
namespace Go.Proofs.Ytgbhfolbkgibfaa
set_option maxRecDepth 20000
open Go.RowKit Go.Maps
open MsgMath (Mg)

/-- A message, and where its slices lie. -/
structure MM where
  m : Mg
  ve : Value
  vm : Value
  vg : Value
  us : List EE

def MM.cells (x : MM) : List Value := (mgC x.m x.ve x.vm x.vg).toList
theorem MM.cells_len (x : MM) : x.cells.length = 12 := rfl
def MM.Has (w : World) (x : MM) : Prop := MHas w x.m x.ve x.vm x.vg x.us
def MMHas (w : World) (xs : List MM) : Prop := ∀ x ∈ xs, x.Has w
theorem MMHas.below {w w' : World} {xs : List MM} (h : MMHas w xs) {B : Nat} (hB : w.heap.size ≤ B) (hb : Below B w w') : MMHas w' xs := fun x hx => (h x hx).below hB hb

theorem info_msg12 : (Try.prog.info? 36).map (fun i => (i.zero, i.size, i.bytes)) = some (some (.agg zeroM), 12, 144) := by kernel_rfl

/-- Messages in a row of the call's own. -/
def MRow (w : World) (B : Nat) (v : Value) (xs : List MM) : Prop := w.ownsRow B 36 12 v xs.length (xs.flatMap MM.cells)

theorem mms_len (xs : List MM) : (xs.flatMap MM.cells).length = xs.length * 12 := by
  induction xs with
  | nil => rfl
  | cons x r ih => rw [List.flatMap_cons, List.length_append, MM.cells_len, ih, List.length_cons]; omega
theorem mms_drop (xs : List MM) (i : Nat) : (xs.flatMap MM.cells).drop (i * 12) = (xs.drop i).flatMap MM.cells := by
  induction xs generalizing i with
  | nil => simp
  | cons u us ih =>
    cases i with
    | zero => simp
    | succ i =>
      rw [List.flatMap_cons, List.drop_succ_cons, ← ih i, show (i + 1) * 12 = u.cells.length + i * 12 by rw [MM.cells_len]; omega, List.drop_length_add_append]
theorem mms_at {xs : List MM} {i : Nat} {x : MM} (h : xs[i]? = some x) {j : Nat} {v : Value} (hj : x.cells[j]? = some v) : (xs.flatMap MM.cells)[i * 12 + j]? = some v := by
  obtain ⟨h1, h2⟩ := List.getElem?_eq_some_iff.1 h
  have hd := mms_drop xs i
  rw [List.drop_eq_getElem_cons h1, h2, List.flatMap_cons] at hd
  have h3 := (List.getElem?_eq_some_iff.1 hj).1
  rw [← List.getElem?_drop, hd, List.getElem?_append_left h3]
  exact hj
theorem mm_one {x : MM} {w : World} (h : x.Has w) : ∀ v ∈ x.cells, v.oneCell' = true := by
  obtain ⟨m, ve, vm, vg, us⟩ := x
  have h' : MHas w m ve vm vg us := h
  obtain ⟨a, ca, rfl⟩ := h'.els.form
  obtain ⟨b, cb, rfl⟩ := h'.ms.shape
  obtain ⟨d, cd, rfl⟩ := h'.gs.shape
  intro v hv
  unfold MM.cells mgC at hv
  simp only [List.mem_cons, List.not_mem_nil, or_false] at hv
  rcases hv with rfl | rfl | rfl | rfl | rfl | rfl | rfl | rfl | rfl | rfl | rfl | rfl <;> rfl

theorem load_mm (W : World) (p : Addr) (x : MM) (h : ∀ j v, x.cells[j]? = some v → W.cell? (p.add j) = some v) : (Instr.loadAt 36 (.pointer (some p))).run Try.prog W = .ok (.agg (mgC x.m x.ve x.vm x.vg)) W :=
  loads_cells p 36 _ x.cells Try.underlying36 rfl (by kernel_rfl) h

/-- A message of the row, where it lies. -/
theorem MRow.load {w : World} {B : Nat} {a : Option Addr} {n c : Nat} {xs : List MM} (h : MRow w B (.slice a n c) xs) {i : Nat} {x : MM} (hx : xs[i]? = some x) : ∃ g, a = some ⟨g, 0, none⟩ ∧ B ≤ g ∧ g < w.heap.size ∧ ∀ j v, x.cells[j]? = some v → w.cell? ((⟨g, i * 12, none⟩ : Addr).add j) = some v := by
  have hi := (List.getElem?_eq_some_iff.1 hx).1
  rcases h.2 with ⟨-, h1⟩ | ⟨g, cap, cur, hv, hB, hg, hn, hm, hs, ht⟩
  · omega
  · cases hv
    refine ⟨g, rfl, hB, (Array.getElem?_eq_some_iff.1 hg).1, fun j v hj => ?_⟩
    have h3 := (List.getElem?_eq_some_iff.1 hj).1
    rw [MM.cells_len] at h3
    have h4 := mms_at hx hj
    rw [← ht, List.getElem?_take, if_pos (by omega), Array.getElem?_toList] at h4
    rw [addr_add, (show Blk w g 36 cur from hg).cell]
    exact h4

end Go.Proofs.Ytgbhfolbkgibfaa

/- Layer 19's reference: At. -/
namespace Go.Proofs.Ytgbhfolbkgibfaa
set_option maxRecDepth 20000
open Go.RowKit BinMath NetMath
open MsgMath (Mg)

theorem mgM_info (m : Mg) (ve vm vg : Value) : (Try.prog.info? 36).map (·.size) = some (mgC m ve vm vg).size := by
  have h : (Try.prog.info? 36).map (·.size) = some 12 := by kernel_rfl
  exact h
theorem zeroM_one : zeroM.all (·.oneCell') = true := by simp [zeroM, mgC, Value.oneCell']

set_option maxHeartbeats 1000000 in
theorem refAt_out (R : Nat) (vL vW : Value) (xs : List MM) (i : Int) (w : World) (hR : Blk w R 30 #[vL, vW]) (hL : MRow w 0 vL xs) (hi : ¬ (0 ≤ i ∧ i < xs.length)) :
    Calls Try.prog 16 #[.pointer (some ⟨R, 0, none⟩), .int .i64 i] w fun e w' => e = .returned (.tuple #[.agg zeroM, .int .i64 9]) ∧ Below w.heap.size w w' := by
  obtain ⟨a, c, rfl⟩ : ∃ a c, vL = .slice a xs.length c := by
    rcases hL.2 with ⟨h, h0⟩ | ⟨g, cap, cur, h, -⟩
    · exact ⟨none, 0, by rw [h, h0]⟩
    · exact ⟨_, _, h⟩
  obtain ⟨n, hn⟩ : ∃ n, n = xs.length := ⟨_, rfl⟩
  rw [← hn] at hR hi
  have hc0 : ∀ o : Obj, (w.alloc o).cell? ⟨R, 0, none⟩ = some (.slice a n c) := fun o => by rw [(hR.alloc _).cell]; rfl
  clear hL hR hn
  by_cases h0 : i < 0
  · have d0 : decide (i < 0) = true := decide_eq_true h0
    go_enter Try.func16, Try.ntmps16
    go_wp2_with (refine wpList_store_all rfl 36 (.tmp 4) (.tmp 17) rfl w.heap.size (zeroM) rfl rfl 36 zeroM (Blk.new w _ _) (mgM_info _ _ _ _) rfl zeroM_one ?_; intro w3 hb hos; (have HZ := Lib.hid hb); (have HB3 := Lib.hid (below_two ((Below.refl w.heap.size w).alloc (Nat.le_refl _) (.cells zeroM 36)) hos (fun k hk e => by omega) (by rw [World.size_alloc]; omega))); clear hb hos)
    exact bodyPost_ret (v := .tuple #[.agg zeroM, .int .i64 9]) (ret_msg rfl _ _ w.heap.size zeroM _ rfl rfl rfl HZ.out) rfl ⟨rfl, HB3.out⟩
  · have d0 : ¬ (i < 0) := h0
    have d1 : (n : Int) ≤ i := by omega
    clear hi
    go_enter Try.func16, Try.ntmps16
    go_wp2_with (refine wpList_store_all rfl 36 (.tmp 4) (.tmp 17) rfl w.heap.size (zeroM) rfl rfl 36 zeroM (Blk.new w _ _) (mgM_info _ _ _ _) rfl zeroM_one ?_; intro w3 hb hos; (have HZ := Lib.hid hb); (have HB3 := Lib.hid (below_two ((Below.refl w.heap.size w).alloc (Nat.le_refl _) (.cells zeroM 36)) hos (fun k hk e => by omega) (by rw [World.size_alloc]; omega))); clear hb hos)
    exact bodyPost_ret (v := .tuple #[.agg zeroM, .int .i64 9]) (ret_msg rfl _ _ w.heap.size zeroM _ rfl rfl rfl HZ.out) rfl ⟨rfl, HB3.out⟩

set_option maxHeartbeats 1000000 in
theorem refAt_in (R : Nat) (vL vW : Value) (xs : List MM) (i : Nat) (x : MM) (w : World) (hR : Blk w R 30 #[vL, vW]) (hL : MRow w 0 vL xs) (hx : xs[i]? = some x) (hh : x.Has w) :
    Calls Try.prog 16 #[.pointer (some ⟨R, 0, none⟩), .int .i64 (i : Int)] w fun e w' => e = .returned (.tuple #[.agg (mgC x.m x.ve x.vm x.vg), .int .i64 0]) ∧ Below w.heap.size w w' := by
  obtain ⟨a, c, rfl⟩ : ∃ a c, vL = .slice a xs.length c := by
    rcases hL.2 with ⟨h, h0⟩ | ⟨g, cap, cur, h, -⟩
    · exact ⟨none, 0, by rw [h, h0]⟩
    · exact ⟨_, _, h⟩
  have hin := (List.getElem?_eq_some_iff.1 hx).1
  obtain ⟨g, rfl, -, hgl, hc⟩ := hL.load hx
  obtain ⟨n, hn⟩ : ∃ n, n = xs.length := ⟨_, rfl⟩
  rw [← hn] at hR hin
  have hal := (Below.refl w.heap.size w).alloc (Nat.le_refl _) (.cells zeroM 36)
  have hc0 : ∀ o : Obj, (w.alloc o).cell? ⟨R, 0, none⟩ = some (.slice (some ⟨g, 0, none⟩) n c) := fun o => by rw [(hR.alloc _).cell]; rfl
  have HLd := Lib.hid (load_mm (w.alloc (.cells zeroM 36)) ⟨g, i * 12, none⟩ x (fun j v hj => by
    have h1 := hc j v hj
    rw [hal.cell (World.block_lt_of_cell? w _ h1)]
    exact h1))
  have HOne := Lib.hid (show (mgC x.m x.ve x.vm x.vg).all (·.oneCell') = true by
    rw [← Array.all_toList, List.all_eq_true]
    exact mm_one hh)
  have d0 : ¬ ((i : Int) < 0) := by omega
  have d1 : ¬ ((n : Int) ≤ (i : Int)) := by omega
  have i0 : (0 : Int) ≤ (i : Int) := Int.natCast_nonneg _
  have i1 : (i : Int) < (n : Int) := by omega
  have ea : (⟨g, 0, none⟩ : Addr).add (i * 12) = ⟨g, i * 12, none⟩ := by rw [addr_add, Nat.zero_add]
  clear hL hR hn hc hal hx hh
  go_enter Try.func16, Try.ntmps16
  go_wp2_with (first | (refine wpList_load_by rfl 36 (.tmp 23) rfl _ _ (by first | rfl | (rw [← ea]; rfl)) HLd.out ?_) | (refine wpList_store_all rfl 36 (.tmp 4) (.tmp 24) rfl w.heap.size (mgC x.m x.ve x.vm x.vg) rfl rfl 36 zeroM (Blk.new w _ _) (mgM_info _ _ _ _) rfl HOne.out ?_; intro w3 hb hos; (have HZ := Lib.hid hb); (have HB3 := Lib.hid (below_two ((Below.refl w.heap.size w).alloc (Nat.le_refl _) (.cells zeroM 36)) hos (fun k hk e => by omega) (by rw [World.size_alloc]; omega))); clear hb hos))
  exact bodyPost_ret (v := .tuple #[.agg (mgC x.m x.ve x.vm x.vg), .int .i64 0]) (ret_msg rfl _ _ w.heap.size _ _ rfl rfl rfl HZ.out) rfl ⟨rfl, HB3.out⟩
end Go.Proofs.Ytgbhfolbkgibfaa

