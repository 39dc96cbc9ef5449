/- Joined: MsgSt, MsgTaker, MsgEls, MsgGetKit, MsgRefGetA, MsgGetKit2, MsgRefGet3, MsgRefGet5, MsgRefGet, MsgCopy, MsgCopied. -/
import Derived.Test.YtidapdooiibfnaaHH
import Derived.Test.YtidapdooiibfnaaHK
import Derived.Test.YtidapdooiibfnaaHJ
import Derived.Test.YtidapdooiibfnaaXA
import Derived.Test.YtidapdooiibfnaaHD
/- Layer 18: readings one behind the other, of which the first fault is kept. No program is named here. -/
namespace Go.Proofs.Ytidapdooiibfnaa.MsgMath
set_option maxRecDepth 20000
open BinMath CmdMath

/-- A reading under way: the first fault, or what is left. -/
abbrev St := Except Nat (List UInt8)
def codeS : St → Nat
  | .error c => c
  | .ok _ => 0
def thru {α : Type} (p : Rd α) : St → Except Nat (α × List UInt8)
  | .error c => .error c
  | .ok r => p r
def tag {α : Type} (x : α) : St → Except Nat (α × List UInt8)
  | .error c => .error c
  | .ok r => .ok (x, r)

theorem thru_bind {α β : Type} {p : Rd α} {q : α → Rd β} {st st' : St} {x : α} (h : thru p st = tag x st') : thru (bindP p q) st = thru (q x) st' := by
  cases st with
  | error c =>
    cases st' with
    | error d => simp only [thru, tag, Except.error.injEq] at h ⊢; exact h
    | ok r => cases h
  | ok r =>
    cases st' with
    | error d => exact bindP_err (show p r = .error d from h)
    | ok q' => exact bindP_ok (show p r = .ok (x, q') from h)
theorem thru_ret {α : Type} (x : α) (st : St) : thru (retP x) st = tag x st := by cases st <;> rfl
theorem thru_err {α : Type} {p : Rd α} {st : St} {c : Nat} (h : st = .error c) : thru p st = .error c := by rw [h]; rfl
theorem tag_err {α : Type} {x : α} {st : St} {c : Nat} (h : st = .error c) : tag x st = .error c := by rw [h]; rfl

theorem codeS_ok {st : St} (he : ∀ c, st = .error c → 2 ≤ c ∧ c ≤ 5) (h : codeS st = 0) : ∃ r, st = .ok r := by
  cases st with
  | error c => have := he c rfl; simp only [codeS] at h; omega
  | ok r => exact ⟨r, rfl⟩
theorem codeS_err {st : St} (h : codeS st ≠ 0) : st = .error (codeS st) := by
  cases st with
  | error c => rfl
  | ok r => exact absurd rfl h

theorem gNum_lt {r q : List UInt8} {n : Nat} (h : gNum r = .ok (n, q)) : n < 18446744073709551616 := (gNum_back h).1
/-- A number of any range. -/
theorem gRange_most : gRange 0 18446744073709551615 = gNum := by
  funext r
  cases h : gNum r with
  | error c => exact bindP_err h
  | ok p =>
    obtain ⟨n, q⟩ := p
    rw [gRange, bindP_ok h, if_pos ⟨Nat.zero_le _, by have := gNum_lt h; omega⟩]
    rfl
theorem gRange_bad {lo hi c : Nat} {r : List UInt8} (h : gNum r = .error c) : gRange lo hi r = .error c := bindP_err h
theorem gRange_in {lo hi n : Nat} {r q : List UInt8} (h : gNum r = .ok (n, q)) (h1 : lo ≤ n) (h2 : n ≤ hi) : gRange lo hi r = .ok (n, q) := by rw [gRange, bindP_ok h, if_pos ⟨h1, h2⟩]; rfl
theorem gRange_out {lo hi n : Nat} {r q : List UInt8} (h : gNum r = .ok (n, q)) (h1 : ¬ (lo ≤ n ∧ n ≤ hi)) : gRange lo hi r = .error 3 := by rw [gRange, bindP_ok h, if_neg h1]; rfl
theorem gByte_err {l : List UInt8} {c : Nat} (h : gByte l = .error c) : c = 2 := by
  cases l with
  | nil => simpa [gByte] using h.symm
  | cons x r => simp [gByte] at h
theorem gYes_bad {c : Nat} {r : List UInt8} (h : gByte r = .error c) : gYes r = .error c := bindP_err h
theorem gYes_in {n : Nat} {r q : List UInt8} (h : gByte r = .ok (n, q)) (h1 : n ≤ 1) : gYes r = .ok (decide (n = 1), q) := by rw [gYes, bindP_ok h, if_pos h1]; rfl
theorem gYes_out {n : Nat} {r q : List UInt8} (h : gByte r = .ok (n, q)) (h1 : ¬ n ≤ 1) : gYes r = .error 3 := by rw [gYes, bindP_ok h, if_neg h1]; rfl

/-- What Get answers, by its last state. -/
theorem getM_fault {l : List UInt8} {c : Nat} (h : gMsg l = .error c) : getM l = (Mg.zero, c) := by rw [getM, h]
theorem getM_done {l r : List UInt8} {m : Mg} (h : gMsg l = .ok (m, r)) : getM l = if r = [] then (m, 0) else (Mg.zero, 5) := by rw [getM, h]

/-! ### A message, reading by reading -/

theorem msg_nobyte {l : List UInt8} {c : Nat} (h : gByte l = .error c) : gMsg l = .error c := bindP_err h
theorem msg_nokind {l q : List UInt8} {k : Nat} (h : gByte l = .ok (k, q)) (hk : ¬ (1 ≤ k ∧ k ≤ 5)) : gMsg l = .error 3 := by rw [gMsg, bindP_ok h, if_neg hk]; rfl
theorem msg_head {l q : List UInt8} {k f o t : Nat} {s1 s2 s3 : St} (h : gByte l = .ok (k, q)) (hk : 1 ≤ k ∧ k ≤ 5) (h1 : thru (gRange 1 7) (.ok q) = tag f s1) (h2 : thru (gRange 1 7) s1 = tag o s2) (h3 : thru (gRange 1 MT) s2 = tag t s3) :
    gMsg l = thru (gBody k f o t) s3 := by
  have e : gMsg l = thru (bindP (gRange 1 7) fun f => bindP (gRange 1 7) fun o => bindP (gRange 1 MT) fun t => gBody k f o t) (.ok q) := by rw [gMsg, bindP_ok h, if_pos hk]; rfl
  rw [e, thru_bind h1, thru_bind h2, thru_bind h3]
theorem body_1 {f o t i l : Nat} {s3 s4 s5 : St} (h4 : thru (gRange 0 MT) s3 = tag i s4) (h5 : thru (gRange 0 MT) s4 = tag l s5) : thru (gBody 1 f o t) s3 = tag (⟨1, f, o, t, i, l, 0, 0, false, [], [], []⟩ : Mg) s5 := by
  rw [gBody, if_pos rfl, thru_bind h4, thru_bind h5, thru_ret]
theorem body_2 {f o t : Nat} {y : Bool} {s3 s4 : St} (h4 : thru gYes s3 = tag y s4) : thru (gBody 2 f o t) s3 = tag (⟨2, f, o, t, 0, 0, 0, 0, y, [], [], []⟩ : Mg) s4 := by
  rw [gBody, if_neg (by decide), if_pos rfl, thru_bind h4, thru_ret]
theorem body_4 {f o t i s : Nat} {y : Bool} {s3 s4 s5 s6 : St} (h4 : thru gYes s3 = tag y s4) (h5 : thru (gRange 0 MT) s4 = tag i s5) (h6 : thru (gRange 0 18446744073709551615) s5 = tag s s6) : thru (gBody 4 f o t) s3 = tag (⟨4, f, o, t, i, 0, 0, s, y, [], [], []⟩ : Mg) s6 := by
  rw [gRange_most] at h6
  rw [gBody, if_neg (by decide), if_neg (by decide), if_neg (by decide), if_pos rfl, thru_bind h4, thru_bind h5, thru_bind h6, thru_ret]
theorem body_5 {f o t i l s : Nat} {m : List Nat} {g : List UInt8} {s3 s4 s5 s6 s7 s8 : St} (h4 : thru (gRange 0 MT) s3 = tag i s4) (h5 : thru (gRange 0 MT) s4 = tag l s5) (h6 : thru (gRange 0 18446744073709551615) s5 = tag s s6) (h7 : thru gMem s6 = tag m s7) (h8 : thru (gText 16384) s7 = tag g s8) :
    thru (gBody 5 f o t) s3 = tag (⟨5, f, o, t, i, l, 0, s, false, [], m, g⟩ : Mg) s8 := by
  rw [gRange_most] at h6
  rw [gBody, if_neg (by decide), if_neg (by decide), if_neg (by decide), if_neg (by decide), thru_bind h4, thru_bind h5, thru_bind h6, thru_bind h7, thru_bind h8, thru_ret]
/-- The state behind the number of the entries. -/
def manyS (n : Nat) : St → St
  | .error c => .error c
  | .ok r => if n ≤ 4 then .ok r else .error 4
theorem body_3 {f o t i l c s n : Nat} {es : List Ent} {s3 s4 s5 s6 s7 s8 s9 : St} (h4 : thru (gRange 0 MT) s3 = tag i s4) (h5 : thru (gRange 0 MT) s4 = tag l s5) (h6 : thru (gRange 0 MT) s5 = tag c s6) (h7 : thru (gRange 0 18446744073709551615) s6 = tag s s7)
    (h8 : thru (gRange 0 18446744073709551615) s7 = tag n s8) (h9 : thru (gEnts n) (manyS n s8) = tag es s9) : thru (gBody 3 f o t) s3 = tag (⟨3, f, o, t, i, l, c, s, false, es, [], []⟩ : Mg) s9 := by
  rw [gRange_most] at h7 h8
  rw [gBody, if_neg (by decide), if_neg (by decide), if_pos rfl, thru_bind h4, thru_bind h5, thru_bind h6, thru_bind h7, thru_bind h8]
  cases s8 with
  | error d =>
    have e : s9 = .error d := by
      cases s9 with
      | error c => simp only [manyS, thru, tag, Except.error.injEq] at h9; rw [h9]
      | ok r => cases h9
    rw [e]
    rfl
  | ok r =>
    by_cases hn : n ≤ 4
    · rw [if_pos hn]
      simp only [manyS, if_pos hn] at h9
      rw [thru_bind h9, thru_ret]
    · rw [if_neg hn]
      simp only [manyS, if_neg hn] at h9
      have e : s9 = .error 4 := by
        cases s9 with
        | error c => simp only [thru, tag, Except.error.injEq] at h9; rw [h9]
        | ok r => cases h9
      rw [e]
      rfl

/-- The entries that are left, behind those that were read. -/
def moreE (k : Nat) (es : List Ent) : Rd (List Ent) := bindP (gEnts k) fun r => retP (es ++ r)
theorem moreE_start (n : Nat) (st : St) : thru (gEnts n) st = thru (moreE n []) st := by
  cases st with
  | error c => rfl
  | ok r =>
    show gEnts n r = moreE n [] r
    cases h : gEnts n r with
    | error c => exact (bindP_err h).symm
    | ok p => obtain ⟨x, q⟩ := p; rw [moreE, bindP_ok h]; rfl
theorem moreE_end (es : List Ent) (st : St) : thru (moreE 0 es) st = tag es st := by
  cases st with
  | error c => rfl
  | ok r => simp [moreE, thru, tag, gEnts, bindP, retP]
theorem moreE_err {k : Nat} {es : List Ent} {c : Nat} : thru (moreE k es) (.error c) = .error c := rfl
theorem moreE_text {k c : Nat} {es : List Ent} {r : List UInt8} (h : gText 128 r = .error c) : thru (moreE (k + 1) es) (.ok r) = .error c := by
  show moreE (k + 1) es r = _
  have e : gEnts (k + 1) r = .error c := bindP_err h
  exact bindP_err e
theorem moreE_ent {k : Nat} {es : List Ent} {r x q : List UInt8} (h : gText 128 r = .ok (x, q)) (hx : (getR x).2 ≠ 0) : thru (moreE (k + 1) es) (.ok r) = .error (getR x).2 := by
  show moreE (k + 1) es r = _
  have e : gEnts (k + 1) r = .error (getR x).2 := by rw [gEnts, bindP_ok h, if_neg hx]; rfl
  exact bindP_err e
theorem moreE_next {k : Nat} {es : List Ent} {r x q : List UInt8} (h : gText 128 r = .ok (x, q)) (hx : (getR x).2 = 0) : thru (moreE (k + 1) es) (.ok r) = thru (moreE k (es ++ [(getR x).1])) (.ok q) := by
  show moreE (k + 1) es r = moreE k (es ++ [(getR x).1]) q
  have e : gEnts (k + 1) r = bindP (gEnts k) (fun es => retP ((getR x).1 :: es)) q := by rw [gEnts, bindP_ok h, if_pos hx]
  cases h2 : gEnts k q with
  | error c =>
    have e2 : gEnts (k + 1) r = .error c := e.trans (bindP_err h2)
    rw [moreE, moreE, bindP_err e2, bindP_err h2]
  | ok p =>
    obtain ⟨y, z⟩ := p
    have e2 : gEnts (k + 1) r = .ok ((getR x).1 :: y, z) := by rw [e, bindP_ok h2]; rfl
    rw [moreE, moreE, bindP_ok e2, bindP_ok h2]
    simp [retP]
end Go.Proofs.Ytidapdooiibfnaa.MsgMath

/- Layer 18's reference: a taker of numbers, with the first fault kept. -/
namespace Go.Proofs.Ytidapdooiibfnaa
set_option maxRecDepth 20000
open Go.RowKit BinMath CmdMath
open MsgMath (Mg St codeS thru tag gRange gYes)

/-- A taker at T over the reader at Q. -/
structure TkAt (w : World) (T Q G : Nat) (a : Option Addr) (cap : Nat) (l : List UInt8) (st : St) : Prop where
  tb : Blk w T 67 #[.pointer (some ⟨Q, 0, none⟩), .int .i64 (codeS st : Int)]
  rd : ∀ r, st = .ok r → RAt w Q G a cap l r
  er : ∀ c, st = .error c → 2 ≤ c ∧ c ≤ 5
  ql : Q < w.heap.size
  gq : G ≤ Q
  qt : Q < T

theorem TkAt.tl {w : World} {T Q G : Nat} {a : Option Addr} {cap : Nat} {l : List UInt8} {st : St} (h : TkAt w T Q G a cap l st) : T < w.heap.size := h.tb.lt
theorem TkAt.only {w w' : World} {T Q G : Nat} {a : Option Addr} {cap : Nat} {l : List UInt8} {st : St} {S : Nat → Prop} (h : TkAt w T Q G a cap l st) (ho : OnlyS S w w') (hS : ∀ k, k < G → ¬ S k) (hQ : ¬ S Q) (hT : ¬ S T) : TkAt w' T Q G a cap l st :=
  ⟨h.tb.onlyS ho hT, fun r hr => (h.rd r hr).only ho hS hQ, h.er, Nat.lt_of_lt_of_le h.ql ho.size, h.gq, h.qt⟩
theorem TkAt.below {w w' : World} {T Q G : Nat} {a : Option Addr} {cap : Nat} {l : List UInt8} {st : St} (h : TkAt w T Q G a cap l st) (hb : Below w.heap.size w w') : TkAt w' T Q G a cap l st :=
  ⟨h.tb.keep hb, fun r hr => (h.rd r hr).below hb, h.er, Nat.lt_of_lt_of_le h.ql hb.size, h.gq, h.qt⟩
/-- The reader has read on, or has failed; the taker's fault is written. -/
theorem TkAt.put {w w1 w2 : World} {T Q G : Nat} {a : Option Addr} {cap : Nat} {l : List UInt8} {st st' : St} (h : TkAt w T Q G a cap l st) (ho : Only Q w w1) (hr : ∀ r, st' = .ok r → RAt w1 Q G a cap l r) (he : ∀ c, st' = .error c → 2 ≤ c ∧ c ≤ 5)
    (hb : Blk w2 T 67 #[.pointer (some ⟨Q, 0, none⟩), .int .i64 (codeS st' : Int)]) (ho2 : OnlyS (fun k => k = T) w1 w2) : TkAt w2 T Q G a cap l st' ∧ OnlyS (fun k => k = T ∨ k = Q) w w2 := by
  have h1 := h.gq; have h2 := h.qt
  refine ⟨⟨hb, fun r e => (hr r e).only ho2 (fun b hb e => by omega) (by intro e; omega), he, Nat.lt_of_lt_of_le h.ql (Nat.le_trans ho.size ho2.size), h1, h2⟩, ?_⟩
  exact (OnlyS.of_only ho (.inr rfl)).trans (ho2.mono fun k _ e => .inl e)

end Go.Proofs.Ytidapdooiibfnaa

/- Layer 18: a message of the call's own memory; a list of entries that grows. -/
namespace Go.Proofs.Ytidapdooiibfnaa
set_option maxRecDepth 20000
open Go.RowKit Go.Maps BinMath CmdMath
open MsgMath (Mg)

/-- A list of entries of the call's own, from block B on. -/
def ERow (w : World) (B : Nat) (v : Value) (us : List EE) : Prop := w.ownsRow B 42 6 v us.length (us.flatMap EE.cells)
/-- Their slices, too. -/
def EMine (w : World) (B : Nat) (us : List EE) : Prop := ∀ u ∈ us, Mine w B u.e u.a u.ca u.b u.cb

theorem ERow.nil (w : World) (B : Nat) : ERow w B (.slice none 0 0) [] := World.ownsRow_nil _ _ _ _
theorem ERow.form {w : World} {B : Nat} {v : Value} {us : List EE} (h : ERow w B v us) : ∃ a c, v = .slice a us.length c := by
  rcases h.2 with ⟨rfl, h1⟩ | ⟨g, cap, cur, rfl, -⟩
  · exact ⟨_, _, by rw [h1]⟩
  · exact ⟨_, _, rfl⟩
theorem ERow.els {w : World} {B : Nat} {v : Value} {us : List EE} (h : ERow w B v us) : Els w v us := by
  rcases h.2 with ⟨rfl, h1⟩ | ⟨g, cap, cur, rfl, hB, hg, hn, hm, hs, ht⟩
  · exact .inl ⟨rfl, List.eq_nil_of_length_eq_zero h1⟩
  · refine .inr ⟨⟨g, 0, none⟩, cap, rfl, hn, fun j u hj => ?_⟩
    rw [addr_add, Nat.zero_add, Blk.cell (show Blk w g 42 cur from hg), ← Array.getElem?_toList]
    have hlt := (List.getElem?_eq_some_iff.1 hj).1
    rw [← ht, List.getElem?_take] at hj
    split at hj
    · exact hj
    · cases hj
theorem ERow.to {w w' : World} {B : Nat} {v : Value} {us : List EE} (h : ERow w B v us) (hk : ∀ k, B ≤ k → k < w.heap.size → w'.heap[k]? = w.heap[k]?) : ERow w' B v us :=
  ownsRow_to h fun k e => hk k (World.ownsRow.lt h k e).1 (World.ownsRow.lt h k e).2
theorem EMine.to {w w' : World} {B : Nat} {us : List EE} (h : EMine w B us) (hk : ∀ k, B ≤ k → k < w.heap.size → w'.heap[k]? = w.heap[k]?) : EMine w' B us := fun u hu => by
  have h1 := h u hu
  exact ⟨h1.ok, row_to h1.d fun k e => hk k (World.ownsRow.lt h1.d k e).1 (World.ownsRow.lt h1.d k e).2, h1.m.to fun k e => hk k (World.ownsRow.lt h1.m k e).1 (World.ownsRow.lt h1.m k e).2, h1.dl, h1.ml⟩
theorem ERow.low {w : World} {B B' : Nat} {v : Value} {us : List EE} (h : ERow w B v us) (hB : B' ≤ B) : ERow w B' v us := by
  obtain ⟨h1, h2⟩ := h
  exact ⟨h1, h2.elim .inl fun ⟨g, cap, cur, hv, hb, r⟩ => .inr ⟨g, cap, cur, hv, Nat.le_trans hB hb, r⟩⟩
theorem EMine.low {w : World} {B B' : Nat} {us : List EE} (h : EMine w B us) (hB : B' ≤ B) : EMine w B' us := fun u hu => (h u hu).low hB

theorem info_ent6 : (Try.prog.info? 42).map (fun i => (i.zero, i.size, i.bytes)) = some (some (.agg zeroC), 6, 80) := by kernel_rfl

/-- A message of the call's own memory. -/
structure MOwn (w : World) (B : Nat) (m : Mg) (ve vm vg : Value) (us : List EE) : Prop where
  ok : m.Ok
  els : ERow w B ve us
  all : EMine w B us
  ents : us.map EE.e = m.e
  ms : NRow w B vm m.m
  gs : Row w B vg m.g
  ul : us.length ≤ 1000
  ml : m.m.length ≤ 7
  gl : m.g.length ≤ 16384

theorem MOwn.has {w : World} {B : Nat} {m : Mg} {ve vm vg : Value} {us : List EE} (h : MOwn w B m ve vm vg us) : MHas w m ve vm vg us :=
  ⟨h.ok, h.els.els, fun u hu => (h.all u hu).has, h.ents, h.ms.nums, h.gs.bys, by have := h.ul; omega, by have := h.ml; omega, by have := h.gl; omega⟩
theorem MOwn.to {w w' : World} {B : Nat} {m : Mg} {ve vm vg : Value} {us : List EE} (h : MOwn w B m ve vm vg us) (hk : ∀ k, B ≤ k → k < w.heap.size → w'.heap[k]? = w.heap[k]?) : MOwn w' B m ve vm vg us :=
  ⟨h.ok, h.els.to hk, h.all.to hk, h.ents, h.ms.to fun k e => hk k (World.ownsRow.lt h.ms k e).1 (World.ownsRow.lt h.ms k e).2, row_to h.gs fun k e => hk k (World.ownsRow.lt h.gs k e).1 (World.ownsRow.lt h.gs k e).2, h.ul, h.ml, h.gl⟩
theorem MOwn.below {w w' : World} {B : Nat} {m : Mg} {ve vm vg : Value} {us : List EE} (h : MOwn w B m ve vm vg us) (hb : Below w.heap.size w w') : MOwn w' B m ve vm vg us := h.to fun k _ hk => hb.block k hk
theorem MOwn.low {w : World} {B B' : Nat} {m : Mg} {ve vm vg : Value} {us : List EE} (h : MOwn w B m ve vm vg us) (hB : B' ≤ B) : MOwn w B' m ve vm vg us :=
  ⟨h.ok, h.els.low hB, h.all.low hB, h.ents, nrow_low h.ms hB, row_low h.gs hB, h.ul, h.ml, h.gl⟩
theorem MOwn.zero (w : World) (B : Nat) : MOwn w B Mg.zero (.slice none 0 0) (.slice none 0 0) (.slice none 0 0) [] :=
  ⟨MsgMath.Mg.Ok.zero, ERow.nil _ _, fun u hu => absurd hu List.not_mem_nil, rfl, World.ownsRow_nil _ _ _ _, World.ownsRow_nil _ _ _ _, by simp, by simp [Mg.zero], by simp [Mg.zero]⟩
end Go.Proofs.Ytidapdooiibfnaa

/- Layer 18's reference: what Get has in memory while it reads. -/
namespace Go.Proofs.Ytidapdooiibfnaa
set_option maxRecDepth 20000
open Go.RowKit BinMath CmdMath Reg
open MsgMath (Mg St codeS thru tag gRange gYes getM gMsg)

/-- In the midst of Get: the taker at T over the reader at Q, the result's block R, the message's block M. -/
structure GAt (w : World) (R Q T Z : Nat) (a : Option Addr) (cap : Nat) (l : List UInt8) (st : St) (cs : Array Value) (W : World) : Prop where
  tk : TkAt W T Q w.heap.size a cap l st
  br : Blk W R 27 zeroM
  bz : Blk W Z 27 cs
  bl : Below w.heap.size w W
  rl : w.heap.size ≤ R
  rq : R < Q
  tz : T < Z

theorem GAt.call {w W W' : World} {R Q T Z : Nat} {a : Option Addr} {cap : Nat} {l : List UInt8} {st st' : St} {cs : Array Value} (h : GAt w R Q T Z a cap l st cs W) (ht : TkAt W' T Q w.heap.size a cap l st') (ho : OnlyS (fun k => k = T ∨ k = Q) W W') : GAt w R Q T Z a cap l st' cs W' := by
  have h1 := h.rl; have h2 := h.rq; have h3 := h.tz; have h4 := h.tk.qt; have h5 := h.tk.gq
  exact ⟨ht, h.br.onlyS ho (by omega), h.bz.onlyS ho (by omega), h.bl.trans (ho.below (fun k hk e => by rcases e with e | e <;> omega) h.bl.size), h1, h2, h3⟩
theorem GAt.set {w W W' : World} {R Q T Z : Nat} {a : Option Addr} {cap : Nat} {l : List UInt8} {st : St} {cs cs' : Array Value} (h : GAt w R Q T Z a cap l st cs W) (hb : Blk W' Z 27 cs') (ho : OnlyS (fun k => k = Z) W W') : GAt w R Q T Z a cap l st cs' W' := by
  have h1 := h.rl; have h2 := h.rq; have h3 := h.tz; have h4 := h.tk.qt; have h5 := h.tk.gq
  exact ⟨h.tk.only ho (fun k hk e => by omega) (by omega) (by omega), h.br.onlyS ho (by omega), hb, h.bl.trans (ho.below (fun k hk e => by omega) h.bl.size), h1, h2, h3⟩
theorem GAt.below {w W W' : World} {R Q T Z : Nat} {a : Option Addr} {cap : Nat} {l : List UInt8} {st : St} {cs : Array Value} (h : GAt w R Q T Z a cap l st cs W) (hb : Below W.heap.size W W') : GAt w R Q T Z a cap l st cs W' :=
  ⟨h.tk.below hb, h.br.keep hb, h.bz.keep hb, h.bl.trans (hb.mono h.bl.size), h.rl, h.rq, h.tz⟩

theorem ret_msg {fn : Func} {p u : Tmp} (h : fn.results = #[.cell p 27, .tmp u]) (tmps : Array Value) (W : World) (g : Nat) (cs : Array Value) (c : Value) (hs : cs.size = 12) (hp : tmps.getD p undef = .pointer (some ⟨g, 0, none⟩)) (hc : tmps.getD u undef = c) (hb : Blk W g 27 cs) :
    (results fn tmps).run Try.prog W = .ok (.tuple #[.agg cs, c]) W := by
  have h6 : (Try.prog.info? 27).map (·.size) = some 12 := by kernel_rfl
  have hl := run_loadVar_row (P := Try.prog) W g 27 27 cs (0, 0) _ hb Try.underlying27 rfl (by rw [hs]; exact h6)
  have hp' : tmps[p]?.getD undef = .pointer (some ⟨g, 0, none⟩) := by simpa using hp
  have hc' : tmps[u]?.getD undef = c := by simpa using hc
  simp only [results, h]
  simp [Result.andThen, hp', hc', asAddr, hl]

end Go.Proofs.Ytidapdooiibfnaa

/- Layer 18's reference: Get. -/
namespace Go.Proofs.Ytidapdooiibfnaa
set_option maxRecDepth 20000
open Go.RowKit BinMath CmdMath Reg
open MsgMath (Mg St codeS thru tag gRange gYes getM gMsg)

end Go.Proofs.Ytidapdooiibfnaa

/- Layer 18's reference: entries that are read one behind the other. -/
namespace Go.Proofs.Ytidapdooiibfnaa
set_option maxRecDepth 20000
open Go.RowKit BinMath CmdMath Reg
open MsgMath (Mg St codeS thru tag gRange gYes getM gMsg)

theorem GAt.far {w W W' : World} {R Q T Z : Nat} {a : Option Addr} {cap : Nat} {l : List UInt8} {st : St} {cs : Array Value} {S : Nat → Prop} (h : GAt w R Q T Z a cap l st cs W) (ho : OnlyS S W W') (hS : ∀ k, k ≤ Z → ¬ S k) : GAt w R Q T Z a cap l st cs W' := by
  have h1 := h.rl; have h2 := h.rq; have h3 := h.tz; have h4 := h.tk.qt; have h5 := h.tk.gq
  exact ⟨h.tk.only ho (fun k hk => hS k (by omega)) (hS _ (by omega)) (hS _ (by omega)), h.br.onlyS ho (hS _ (by omega)), h.bz.onlyS ho (hS _ (Nat.le_refl _)), h.bl.trans (ho.below (fun k hk => hS k (by omega)) h.bl.size), h1, h2, h3⟩
/-- The reader has read on. -/
theorem GAt.read {w W W' : World} {R Q T Z : Nat} {a : Option Addr} {cap : Nat} {l r q : List UInt8} {cs : Array Value} (h : GAt w R Q T Z a cap l (.ok r) cs W) (ho : Only Q W W') (hr : RAt W' Q w.heap.size a cap l q) : GAt w R Q T Z a cap l (.ok q) cs W' := by
  have h4 := h.tk.qt
  exact h.call ⟨h.tk.tb.onlyR ho (by omega), (fun r e => by cases e; exact hr), (fun c e => by cases e), Nat.lt_of_lt_of_le h.tk.ql ho.size, h.tk.gq, h4⟩ (OnlyS.of_only ho (.inr rfl))
/-- The reader has failed, and the taker has its fault. -/
theorem GAt.fail {w W W1 W2 : World} {R Q T Z c : Nat} {a : Option Addr} {cap : Nat} {l r : List UInt8} {cs : Array Value} (h : GAt w R Q T Z a cap l (.ok r) cs W) (ho : Only Q W W1) (hc : 2 ≤ c ∧ c ≤ 5)
    (hb : Blk W2 T 67 #[.pointer (some ⟨Q, 0, none⟩), .int .i64 (c : Int)]) (ho2 : OnlyS (fun k => k = T) W1 W2) : GAt w R Q T Z a cap l (.error c) cs W2 := by
  have h4 := h.tk.qt
  have ho3 : OnlyS (fun k => k = T ∨ k = Q) W W2 := (OnlyS.of_only ho (.inr rfl)).trans (ho2.mono fun _ _ e => .inl e)
  exact h.call ⟨hb, (fun r e => by cases e), (fun d e => by cases e; exact hc), Nat.lt_of_lt_of_le h.tk.ql ho3.size, h.tk.gq, h4⟩ ho3

theorem ERow.only {w w' : World} {B : Nat} {v : Value} {us : List EE} {S : Nat → Prop} (h : ERow w B v us) (ho : OnlyS S w w') (hS : ∀ k, B ≤ k → ¬ S k) : ERow w' B v us := h.to fun k hk hl => ho.block k hl (hS k hk)
theorem EMine.only {w w' : World} {B : Nat} {us : List EE} {S : Nat → Prop} (h : EMine w B us) (ho : OnlyS S w w') (hS : ∀ k, B ≤ k → ¬ S k) : EMine w' B us := h.to fun k hk hl => ho.block k hl (hS k hk)
theorem ERow.below {w w' : World} {B : Nat} {v : Value} {us : List EE} (h : ERow w B v us) (hb : Below w.heap.size w w') : ERow w' B v us := h.to fun k _ hl => hb.block k hl
theorem EMine.below {w w' : World} {B : Nat} {us : List EE} (h : EMine w B us) (hb : Below w.heap.size w w') : EMine w' B us := h.to fun k _ hl => hb.block k hl

theorem rows_apart {w : World} {B1 B2 e1 e2 s1 s2 n1 n2 : Nat} {v1 v2 : Value} {xs1 xs2 : List Value} (h1 : w.ownsRow B1 e1 s1 v1 n1 xs1) (h2 : w.ownsRow B2 e2 s2 v2 n2 xs2) (hne : e1 ≠ e2) (k : Nat) (hk : v1.ownBlock = some k) : v2.ownBlock ≠ some k := by
  intro e
  rcases h2.2 with ⟨rfl, _⟩ | ⟨g, cap, cur, rfl, hB, hg, _⟩
  · simp [Value.ownBlock] at e
  · have e2 : g = k := by simpa [Value.ownBlock] using e
    subst e2
    exact ownsRow_apart h1 (show Blk w g e2 cur from hg) hne hk

/-- An entry's slices stay where the list that holds it grows. -/
theorem EMine.grown {w w' : World} {B B' : Nat} {v : Value} {us vs : List EE} (h : EMine w B us) (hr : ERow w B' v vs) (hg : w.grownBy w' v.ownBlock) : EMine w' B us := fun u hu => by
  have h1 := h u hu
  exact ⟨h1.ok, row_to h1.d fun k e => hg.block k (World.ownsRow.lt h1.d k e).2 (fun e2 => rows_apart h1.d hr (by decide) k e e2.symm), h1.m.to fun k e => hg.block k (World.ownsRow.lt h1.m k e).2 (fun e2 => rows_apart h1.m hr (by decide) k e e2.symm), h1.dl, h1.ml⟩
theorem row_cap {w : World} {B : Nat} {v : Value} {l : List UInt8} (h : Row w B v l) : ∃ a c, v = .slice a l.length c ∧ l.length ≤ c := by
  rcases h.2 with ⟨rfl, h1⟩ | ⟨g, cap, cur, rfl, hB, hg, hn, -⟩
  · exact ⟨none, 0, by rw [h1], by omega⟩
  · exact ⟨_, _, rfl, hn⟩
end Go.Proofs.Ytidapdooiibfnaa

/- Layer 18's reference: Get, a message of the kind 3. -/
namespace Go.Proofs.Ytidapdooiibfnaa
set_option maxRecDepth 20000
open Go.RowKit BinMath CmdMath Reg
open MsgMath (Mg St codeS thru tag gRange gYes getM gMsg gEnts)

end Go.Proofs.Ytidapdooiibfnaa

/- Layer 18's reference: Get, a message of the kind 5. -/
namespace Go.Proofs.Ytidapdooiibfnaa
set_option maxRecDepth 20000
open Go.RowKit BinMath CmdMath Reg
open MsgMath (Mg St codeS thru tag gRange gYes getM gMsg gEnts)

end Go.Proofs.Ytidapdooiibfnaa

/- Layer 18's reference: Get. -/
namespace Go.Proofs.Ytidapdooiibfnaa
set_option maxRecDepth 20000
open Go.RowKit BinMath CmdMath Reg

end Go.Proofs.Ytidapdooiibfnaa

/- Layer 18: a message in memory of its own: its mathematics. -/
namespace Go.Proofs.Ytidapdooiibfnaa
set_option maxRecDepth 20000
open Go.RowKit BinMath CmdMath Reg
open MsgMath (Mg)

/-- append([]api.Entry{}, x...). -/
theorem append_ent_lit {w : World} {B g : Nat} {x : Value} {us : List EE} (hB : B ≤ g) (hg : w.heap[g]? = some (.cells #[] 42 (0, 0))) (hx : Els w x us) (hlen : us.length ≤ 1759218604390) :
    ∃ v' w', (Builtin.append_ #[23, 23] 23 #[.slice (some ⟨g, 0, none⟩) 0 0, x]).run Try.prog w = .ok v' w' ∧ ERow w' B v' us ∧ OnlyS (fun k => k = g) w w' := by
  obtain ⟨i0, hi, hz0, hz1, hz2⟩ := info_parts info_ent6
  have hlt : g < w.heap.size := (Array.getElem?_eq_some_iff.1 hg).1
  have hrow : w.ownsRow B 42 6 (.slice (some ⟨g, 0, none⟩) 0 0) 0 [] := ⟨rfl, .inr ⟨g, 0, #[], rfl, hB, hg, Nat.le_refl _, by unfold maxLen; omega, rfl, rfl⟩⟩
  rcases hx with ⟨rfl, rfl⟩ | ⟨ad, cap, rfl, -, hc⟩
  · exact ⟨_, w, run_append_owned_none (P := Try.prog) (w := w) B _ _ _ i0 6 Try.underlying23 hi _ 0 [] hrow, hrow, OnlyS.refl _ _⟩
  · obtain ⟨v', w', hr, h1, h2, -⟩ := run_append_own (P := Try.prog) w B 23 23 42 i0 (.agg zeroC) 6 80 Try.underlying23 hi hz0 hz1 hz2 rfl (by decide) _ 0 [] hrow ad us.length cap (us.flatMap EE.cells) (cells_all us)
      hc (cells_one us) (by unfold maxLen; omega) (by omega) (by omega)
    refine ⟨v', w', hr, ?_, ⟨h2.os, h2.tape, h2.output, h2.size, fun k hk hs => h2.block k hk fun e => hs (by simp [Value.ownBlock] at e; exact e)⟩⟩
    unfold ERow
    rw [Nat.zero_add] at h1
    simpa using h1

/-- An entry of a copy: what its slices lead to is what it was, or is the copy's own. -/
structure CE (w0 w : World) (B : Nat) (u : EE) : Prop where
  ok : u.e.Ok
  d : Bys w0 (.slice u.a u.e.d.length u.ca) u.e.d ∨ Row w B (.slice u.a u.e.d.length u.ca) u.e.d
  m : Nums w0 (.slice u.b u.e.m.length u.cb) u.e.m ∨ NRow w B (.slice u.b u.e.m.length u.cb) u.e.m
  dl : u.e.d.length ≤ 140737488351232
  ml : u.e.m.length ≤ 17592186043904

theorem CE.has {w0 w : World} {B : Nat} {u : EE} (h : CE w0 w B u) (hb : Below w0.heap.size w0 w) : Has w u.e u.a u.ca u.b u.cb :=
  ⟨h.ok, h.d.elim (fun h => h.below (Nat.le_refl _) hb) fun h => h.bys, h.m.elim (fun h => h.below (Nat.le_refl _) hb) fun h => h.nums, h.dl, by have := h.ml; omega⟩
theorem CE.below {w0 w w' : World} {B : Nat} {u : EE} (h : CE w0 w B u) (hb : Below w.heap.size w w') : CE w0 w' B u :=
  ⟨h.ok, h.d.imp id fun h => ownsRow_keep h hb, h.m.imp id fun h => h.keep hb, h.dl, h.ml⟩
theorem CE.far {w0 w w' : World} {B g : Nat} {u : EE} {cur : Array Value} (h : CE w0 w B u) (hg : Blk w g 42 cur) (ho : OnlyS (fun k => k = g) w w') : CE w0 w' B u :=
  ⟨h.ok, h.d.imp id fun h => row_to h fun k hk => ho.block k (World.ownsRow.lt h k hk).2 (fun e => ownsRow_apart h hg (by decide) (by rw [hk, e])),
    h.m.imp id fun h => h.to fun k hk => ho.block k (World.ownsRow.lt h k hk).2 (fun e => ownsRow_apart h hg (by decide) (by rw [hk, e])), h.dl, h.ml⟩
/-- .. where a block is written that isn't of the copy's lists. -/
theorem CE.msg {w0 w w' : World} {B g : Nat} {u : EE} {cur : Array Value} (h : CE w0 w B u) (hg : Blk w g 27 cur) (ho : OnlyS (fun k => k = g) w w') : CE w0 w' B u :=
  ⟨h.ok, h.d.imp id fun h => row_to h fun k hk => ho.block k (World.ownsRow.lt h k hk).2 (fun e => ownsRow_apart h hg (by decide) (by rw [hk, e])),
    h.m.imp id fun h => h.to fun k hk => ho.block k (World.ownsRow.lt h k hk).2 (fun e => ownsRow_apart h hg (by decide) (by rw [hk, e])), h.dl, h.ml⟩
theorem ERow.msg {w w' : World} {B g : Nat} {v : Value} {us : List EE} {cur : Array Value} (h : ERow w B v us) (hg : Blk w g 27 cur) (ho : OnlyS (fun k => k = g) w w') : ERow w' B v us :=
  ownsRow_to h fun k hk => ho.block k (World.ownsRow.lt h k hk).2 (fun e => ownsRow_apart h hg (by decide) (by rw [hk, e]))
theorem NRow.msg {w w' : World} {B g : Nat} {v : Value} {l : List Nat} {cur : Array Value} (h : NRow w B v l) (hg : Blk w g 27 cur) (ho : OnlyS (fun k => k = g) w w') : NRow w' B v l :=
  ownsRow_to h fun k hk => ho.block k (World.ownsRow.lt h k hk).2 (fun e => ownsRow_apart h hg (by decide) (by rw [hk, e]))

/-- A row's block. -/
theorem row_blk {w : World} {B n c : Nat} {a : Option Addr} {us : List EE} (h : ERow w B (.slice a n c) us) (hn : n = us.length) (h0 : 0 < n) : ∃ g cur, a = some ⟨g, 0, none⟩ ∧ B ≤ g ∧ Blk w g 42 cur ∧ n ≤ c ∧ cur.size = c * 6 ∧ cur.toList.take (n * 6) = us.flatMap EE.cells := by
  subst hn
  rcases h.2 with ⟨h3, h4⟩ | ⟨g, cap, cur, h3, h4, h5, h6, h7, h8, h9⟩
  · omega
  · cases h3
    exact ⟨g, cur, rfl, h4, h5, h6, h8, h9⟩

theorem flat_set1 (us : List EE) (i k : Nat) (hk : k < 6) (u u' : EE) (hu : us[i]? = some u) (x : Value) (h : u.cells.set k x = u'.cells) : (us.flatMap EE.cells).set (i * 6 + k) x = (us.set i u').flatMap EE.cells := by
  induction us generalizing i with
  | nil => simp at hu
  | cons v us ih =>
    cases i with
    | zero =>
      simp at hu
      subst hu
      simp only [List.flatMap_cons, List.set_cons_zero, Nat.zero_mul, Nat.zero_add]
      rw [List.set_append_left _ _ (by rw [EE.cells_len]; omega), h]
    | succ i =>
      simp only [List.getElem?_cons_succ] at hu
      simp only [List.flatMap_cons, List.set_cons_succ]
      rw [show (i + 1) * 6 + k = v.cells.length + (i * 6 + k) by rw [EE.cells_len]; omega, List.set_append_right _ _ (by omega), Nat.add_sub_cancel_left, ← ih i hu]

/-- One cell of a row, written. -/
theorem ERow.set {w w' : World} {B c g i k : Nat} {cur : Array Value} {us : List EE} {u u' : EE} {x : Value} (h : ERow w B (.slice (some ⟨g, 0, none⟩) us.length c) us) (hb : Blk w g 42 cur) (hk : k < 6) (hu : us[i]? = some u) (hx : u.cells.set k x = u'.cells)
    (hb' : Blk w' g 42 (cur.setIfInBounds (i * 6 + k) x)) : ERow w' B (.slice (some ⟨g, 0, none⟩) us.length c) (us.set i u') := by
  obtain ⟨h1, h2⟩ := h
  unfold ERow
  rw [← flat_set1 us i k hk u u' hu x hx, List.length_set]
  refine ⟨by simp [h1], ?_⟩
  rcases h2 with ⟨h3, h4⟩ | ⟨g2, cap, cur2, h3, h4, h5, h6, h7, h8, h9⟩
  · cases h3
  · cases h3
    unfold Blk at hb
    rw [hb] at h5
    have e1 := Option.some.inj h5
    injection e1 with e1 _
    subst e1
    refine .inr ⟨g, c, _, rfl, h4, hb', h6, h7, by simpa using h8, ?_⟩
    rw [Array.toList_setIfInBounds, List.take_set, h9]

theorem map_set_same {us : List EE} {i : Nat} {u u' : EE} (hu : us[i]? = some u) (he : u'.e = u.e) : (us.set i u').map EE.e = us.map EE.e := by
  rw [List.map_set]
  apply List.ext_getElem?
  intro j
  rw [List.getElem?_set]
  split
  · rename_i hij
    subst hij
    have hlt : i < (us.map EE.e).length := by
      rw [List.length_map]
      exact (List.getElem?_eq_some_iff.1 hu).1
    rw [if_pos hlt, List.getElem?_map, hu, he]
    rfl
  · rfl

/-- The entries of a copy under way. -/
structure CIn (w0 : World) (B : Nat) (ea : Option Addr) (n ec : Nat) (E : List Ent) (vs : List EE) (W : World) : Prop where
  row : ERow W B (.slice ea n ec) vs
  len : vs.length = n
  same : vs.map EE.e = E
  ce : ∀ u ∈ vs, CE w0 W B u

theorem CIn.below {w0 W W' : World} {B n ec : Nat} {ea : Option Addr} {E : List Ent} {vs : List EE} (h : CIn w0 B ea n ec E vs W) (hb : Below W.heap.size W W') : CIn w0 B ea n ec E vs W' :=
  ⟨h.row.below hb, h.len, h.same, fun u hu => (h.ce u hu).below hb⟩
theorem CIn.msg {w0 W W' : World} {B n ec g : Nat} {ea : Option Addr} {E : List Ent} {vs : List EE} {cur : Array Value} (h : CIn w0 B ea n ec E vs W) (hg : Blk W g 27 cur) (ho : OnlyS (fun k => k = g) W W') : CIn w0 B ea n ec E vs W' :=
  ⟨h.row.msg hg ho, h.len, h.same, fun u hu => (h.ce u hu).msg hg ho⟩
/-- One entry's slice is put in the place of what it was. -/
theorem CIn.put {w0 W W' : World} {B n ec g i k : Nat} {E : List Ent} {vs : List EE} {cur : Array Value} {u u' : EE} {x : Value} (h : CIn w0 B (some ⟨g, 0, none⟩) n ec E vs W) (hb : Blk W g 42 cur) (hk : k < 6) (hu : vs[i]? = some u) (hx : u.cells.set k x = u'.cells) (he : u'.e = u.e)
    (hb' : Blk W' g 42 (cur.setIfInBounds (i * 6 + k) x)) (ho : OnlyS (fun k => k = g) W W') (hc : CE w0 W' B u') : CIn w0 B (some ⟨g, 0, none⟩) n ec E (vs.set i u') W' := by
  obtain ⟨h1, rfl, h3, h4⟩ := h
  refine ⟨h1.set hb hk hu hx hb', by simp, by rw [map_set_same hu he, h3], fun v hv => ?_⟩
  rcases List.mem_or_eq_of_mem_set hv with hv | rfl
  · exact (h4 v hv).far hb ho
  · exact hc

theorem CIn.putD {w0 wr wq wn : World} {B n ec g i : Nat} {E : List Ent} {vs : List EE} {cur : Array Value} {u : EE} {na : Option Addr} {nac : Nat} (h : CIn w0 B (some ⟨g, 0, none⟩) n ec E vs wr) (hW : Below wr.heap.size wr wq) (hb0 : Blk wr g 42 cur) (hu : vs[i]? = some u)
    (hr : Row wq wr.heap.size (.slice na u.e.d.length nac) u.e.d) (hBW : B ≤ wr.heap.size) (hgl : g < wr.heap.size) (hb : Blk wn g 42 (cur.setIfInBounds (i * 6 + 4) (.slice na u.e.d.length nac))) (ho : OnlyS (fun k => k = g) wq wn) :
    CIn w0 B (some ⟨g, 0, none⟩) n ec E (vs.set i ⟨u.e, na, nac, u.b, u.cb⟩) wn := by
  have hbl := h.below hW
  have hce := (hbl.ce u (List.mem_of_getElem? hu)).far (hb0.keep hW) ho
  refine hbl.put (hb0.keep hW) (by decide) hu rfl rfl hb ho ⟨hce.ok, .inr (row_low (row_to hr fun q hq => ho.block q (World.ownsRow.lt hr q hq).2 (fun e => ?_)) hBW), hce.m, hce.dl, hce.ml⟩
  have := (World.ownsRow.lt hr q hq).1
  omega
theorem CIn.putM {w0 wr wq wn : World} {B n ec g i : Nat} {E : List Ent} {vs : List EE} {cur : Array Value} {u : EE} {na : Option Addr} {nac : Nat} (h : CIn w0 B (some ⟨g, 0, none⟩) n ec E vs wr) (hW : Below wr.heap.size wr wq) (hb0 : Blk wr g 42 cur) (hu : vs[i]? = some u)
    (hr : NRow wq wr.heap.size (.slice na u.e.m.length nac) u.e.m) (hBW : B ≤ wr.heap.size) (hgl : g < wr.heap.size) (hb : Blk wn g 42 (cur.setIfInBounds (i * 6 + 5) (.slice na u.e.m.length nac))) (ho : OnlyS (fun k => k = g) wq wn) :
    CIn w0 B (some ⟨g, 0, none⟩) n ec E (vs.set i ⟨u.e, u.a, u.ca, na, nac⟩) wn := by
  have hbl := h.below hW
  have hce := (hbl.ce u (List.mem_of_getElem? hu)).far (hb0.keep hW) ho
  refine hbl.put (hb0.keep hW) (by decide) hu rfl rfl hb ho ⟨hce.ok, hce.d, .inr (nrow_low (hr.to fun q hq => ho.block q (World.ownsRow.lt hr q hq).2 (fun e => ?_)) hBW), hce.dl, hce.ml⟩
  have := (World.ownsRow.lt hr q hq).1
  omega

/-- A list of numbers that is empty, in a block from B on. -/
def nlitF (B : Nat) : Fact := .sat (fun v W => ∃ g, v = .slice (some ⟨g, 0, none⟩) 0 0 ∧ B ≤ g ∧ W.heap[g]? = some (.cells #[] 22 (0, 0))) fun _ _ _ ⟨g, h1, h2, h3⟩ hb => ⟨g, h1, h2, by rw [hb.block g (Array.getElem?_eq_some_iff.1 h3).1]; exact h3⟩
def nrowF (B : Nat) (l : List Nat) : Fact := .sat (fun v W => NRow W B v l) fun _ _ _ h hb => h.keep hb

section
variable {ops : Array Oper} {tab : List (List Nat)} {fin : List Tmp} {G : World → Prop} {f : Tmp → Fact} {i : Nat} {o : Oper}
theorem ask_build_nlit (hG : ∀ W W', G W → Below W.heap.size W W' → G W') (hg : guardOk ops f o) (B : Nat) (hB : ∀ W, G W → B ≤ W.heap.size) (ho : o.op = .buildSlice 24 0 #[]) (hd : ∀ k, o.dst = some k → f k = nlitF B) : Asked Try.prog ops tab fin G f i o := by
  refine ask_grow hG hg fun x W hW hk => ?_
  have hr : (Instr.buildSlice 24 0 #[]).run Try.prog W = .ok (.slice (some ⟨W.heap.size, 0, none⟩) 0 0) (W.alloc (.cells #[] 22)) := by
    simp [Instr.buildSlice, run_underlying Try.underlying24, Result.andThen, Instr.fill, newRow, Array.range_zero']
  refine gives_value (v := .slice (some ⟨W.heap.size, 0, none⟩) 0 0) (w' := W.alloc (.cells #[] 22)) ?_ ⟨(Below.refl _ _).alloc (Nat.le_refl _) _, fun k hk => by rw [hd k hk]; exact ⟨_, rfl, hB W hW, heap_alloc_new W _⟩⟩
  simp [execOp, ho, hr, Result.andThen]
theorem ask_append_nlit (hG : ∀ W W', G W → Below W.heap.size W W' → G W') (hg : guardOk ops f o) (s t : Operand) (B : Nat) (l : List Nat) (hty : o.type = 24)
    (ho : o.op = .call { callee := .builtin .append, args := #[s, t], argTypes := #[24, 24] }) (hs : opFact f s = nlitF B) (ht : ∀ x W, G W → Told ops f o x W → Nums W (evalBy x t) l) (hl : l.length ≤ 17592186043904)
    (hd : ∀ k, o.dst = some k → f k = nrowF B l) : Asked Try.prog ops tab fin G f i o := by
  refine ask_grow hG hg fun x W hW hk => ?_
  have h1 := told_op hk s (by rw [ho]; simp [Op.operands, Call.operands])
  rw [hs] at h1
  obtain ⟨g, e1, hB, hgw⟩ := h1
  obtain ⟨v', w', hr, h2, h3⟩ := append_num_lit hB hgw (ht x W hW hk) hl
  rw [← e1] at hr
  refine gives_value (v := v') (w' := w') ?_ ⟨h3, fun k hk => by rw [hd k hk]; exact h2⟩
  simp [execOp, ho, resolve, invoke, builtin, hty, hr, Result.andThen]
end
end Go.Proofs.Ytidapdooiibfnaa

/- Layer 18's law: copied. -/
namespace Go.Proofs.Ytidapdooiibfnaa
set_option maxRecDepth 20000
open Go.RowKit BinMath CmdMath Reg
open MsgMath (Mg)

set_option maxHeartbeats 8000000 in
set_option maxRecDepth 100000 in
theorem msgCopied_any (m : Mg) (ve vm vg : Value) (us : List EE) (w : World) (hm : MHas w m ve vm vg us) (hu8 : us.length ≤ 1759218604390) (hm8 : m.m.length ≤ 17592186043904) (he8 : ∀ u ∈ us, u.e.m.length ≤ 17592186043904) :
    Calls Try.prog 9 #[.agg (mgC m ve vm vg)] w fun r w' => ∃ ve' vm' vg' us', r = .returned (.agg (mgC m ve' vm' vg')) ∧ MHas w' m ve' vm' vg' us' ∧ Below w.heap.size w w' := by
  obtain ⟨a, ca, rfl⟩ := hm.els.form
  obtain ⟨b, cb, rfl⟩ := hm.ms.shape
  obtain ⟨d, cd, rfl⟩ := hm.gs.shape
  obtain ⟨k, f, o, t, i, l, c, s, y, e, ms, x⟩ := m
  obtain ⟨n, hn⟩ : ∃ n, n = us.length := ⟨_, rfl⟩
  obtain ⟨nb, hnb⟩ : ∃ n, n = ms.length := ⟨_, rfl⟩
  obtain ⟨nd, hnd⟩ : ∃ n, n = x.length := ⟨_, rfl⟩
  simp only at hm hm8 ⊢
  rw [← hn, ← hnb, ← hnd] at hm
  rw [← hn, ← hnb, ← hnd]
  have HM := Lib.hid hm
  have HN := Lib.hid hn
  have HNB := Lib.hid hnb
  have HND := Lib.hid hnd
  have HE8 := Lib.hid he8
  have hn8 : n ≤ 1759218604390 := by omega
  have b1 : Below w.heap.size w ((w.alloc (.cells #[.int .i64 k, .int .u64 (f : Int), .int .u64 (o : Int), .int .u64 (t : Int), .int .u64 (i : Int), .int .u64 (l : Int), .int .u64 (c : Int), .int .u64 (s : Int), .bool y, .slice a n ca, .slice b nb cb, .slice d nd cd] 27)).alloc (.cells zeroM 27)) := ((Below.refl _ _).alloc (Nat.le_refl _) _).alloc (by simp) _
  have HStart := Lib.hid (show Below w.heap.size w ((w.alloc (.cells #[.int .i64 k, .int .u64 (f : Int), .int .u64 (o : Int), .int .u64 (t : Int), .int .u64 (i : Int), .int .u64 (l : Int), .int .u64 (c : Int), .int .u64 (s : Int), .bool y, .slice a n ca, .slice b nb cb, .slice d nd cd] 27)).alloc (.cells zeroM 27)) ∧ Blk ((w.alloc (.cells #[.int .i64 k, .int .u64 (f : Int), .int .u64 (o : Int), .int .u64 (t : Int), .int .u64 (i : Int), .int .u64 (l : Int), .int .u64 (c : Int), .int .u64 (s : Int), .bool y, .slice a n ca, .slice b nb cb, .slice d nd cd] 27)).alloc (.cells zeroM 27)) w.heap.size 27 #[.int .i64 k, .int .u64 (f : Int), .int .u64 (o : Int), .int .u64 (t : Int), .int .u64 (i : Int), .int .u64 (l : Int), .int .u64 (c : Int), .int .u64 (s : Int), .bool y, .slice a n ca, .slice b nb cb, .slice d nd cd] ∧ Blk ((w.alloc (.cells #[.int .i64 k, .int .u64 (f : Int), .int .u64 (o : Int), .int .u64 (t : Int), .int .u64 (i : Int), .int .u64 (l : Int), .int .u64 (c : Int), .int .u64 (s : Int), .bool y, .slice a n ca, .slice b nb cb, .slice d nd cd] 27)).alloc (.cells zeroM 27)) (w.heap.size + 1) 27 zeroM from ⟨b1, (Blk.new w _ _).alloc _, Blk.newAt _ _ _ _ _ (by simp) rfl⟩)
  clear hm hn hnb hnd hu8 he8 b1
  simp only [mgC]
  go_enter Try.func9, Try.ntmps9
  go_upto_region 1 with fail
  refine world_cut (fun W => Below w.heap.size w W ∧ Blk W w.heap.size 27 #[.int .i64 k, .int .u64 (f : Int), .int .u64 (o : Int), .int .u64 (t : Int), .int .u64 (i : Int), .int .u64 (l : Int), .int .u64 (c : Int), .int .u64 (s : Int), .bool y, .slice a n ca, .slice b nb cb, .slice d nd cd] ∧ Blk W (w.heap.size + 1) 27 zeroM) HStart.out ?_
  clear HStart
  rintro w1 ⟨hb1, k1, k2⟩
  obtain ⟨X, hX⟩ : ∃ X, X = w.heap.size := ⟨_, rfl⟩
  rw [← hX] at k1 k2 ⊢
  have HXw := Lib.hid hX
  have hl1 := (Below.refl w1.heap.size w1).alloc (Nat.le_refl _) (.cells #[] 42)
  have A1 := Lib.hid (append_ent_lit (B := w1.heap.size) (Nat.le_refl _) (heap_alloc_new w1 (.cells #[] 42)) ((HM.out.els.below (Nat.le_refl _) hb1).below (Nat.le_refl _) hl1) (by have := HN.out; omega))
  have c9 : (w1.alloc (.cells #[] 42)).cell? ⟨X, 9, none⟩ = some (.slice a n ca) := by rw [(k1.alloc _).cell]; rfl
  have hx1 : X + 1 < w1.heap.size := k2.lt
  have K1 := Lib.hid (k1.alloc (.cells #[] 42))
  have K2 := Lib.hid (k2.alloc (.cells #[] 42))
  have HB1 := Lib.hid (hb1.trans (hl1.mono hb1.size))
  have HB0 := Lib.hid hb1
  clear hb1 k1 k2 hl1 hX
  go_upto_region 2 with (first
    | (at_builtin; refine wpList_append_by rfl _ _ 23 rfl _ _ rfl rfl _ A1.out ?_; rintro v2 w2 ⟨hr, ho⟩; obtain ⟨ea, ec, rfl⟩ : ∃ p q, v2 = .slice p n q := (by obtain ⟨p, q, e⟩ := hr.form; exact ⟨p, q, by rw [e, HN.out]⟩); (have HR2 := Lib.hid hr); (have K3 := Lib.hid (K1.out.onlyS ho (by omega))); (have K4 := Lib.hid (K2.out.onlyS ho (by omega))); (have HB2 := Lib.hid (HB1.out.trans (ho.below (fun q hq e => by have := HB0.out.size; omega) HB1.out.size))); clear hr ho c9)
    | (refine wpList_store_fld rfl 23 (.tmp 8) (.tmp 7) rfl X 9 (.slice ea n ec) rfl rfl 27 #[.int .i64 k, .int .u64 (f : Int), .int .u64 (o : Int), .int .u64 (t : Int), .int .u64 (i : Int), .int .u64 (l : Int), .int .u64 (c : Int), .int .u64 (s : Int), .bool y, .slice a n ca, .slice b nb cb, .slice d nd cd] #[.int .i64 k, .int .u64 (f : Int), .int .u64 (o : Int), .int .u64 (t : Int), .int .u64 (i : Int), .int .u64 (l : Int), .int .u64 (c : Int), .int .u64 (s : Int), .bool y, .slice ea n ec, .slice b nb cb, .slice d nd cd] K3.out (by simp) rfl (by kernel_rfl) rfl ?_; intro w3 hb ho; (have HX := Lib.hid hb); (have HR := Lib.hid (K4.out.onlyS ho (by omega))); (have HR3 := Lib.hid (HR2.out.msg K3.out ho)); (have HB3 := Lib.hid (HB2.out.trans (ho.below (fun q hq e => by have := HXw.out; omega) HB2.out.size))); clear hb ho))
  obtain ⟨B, hB⟩ : ∃ B, B = w1.heap.size := ⟨_, rfl⟩
  have hXB : X + 1 < B := by omega
  rw [← hB] at HR3
  obtain ⟨E, hE⟩ : ∃ E, E = us.map EE.e := ⟨_, rfl⟩
  have hHas : ∀ u ∈ us, CE w w3 B u := fun u hu => by
    have h := HM.out.all u hu
    exact ⟨h.ok, .inl h.d, .inl h.m, h.dl, HE8.out u hu⟩
  have HIn0 := Lib.hid (show CIn w B ea n ec E us w3 from ⟨HR3.out, HN.out.symm, hE.symm, hHas⟩)
  have HEE := Lib.hid hE
  have HBw := Lib.hid (show w.heap.size ≤ B by rw [hB]; exact HB0.out.size)
  clear hHas hE hB HR2 HB2 K3 K4 HR3 A1 K1 K2 HB1 HB0 hx1
  go_wp2
  go_loopw [3] (fun s3 wr => ∃ (j : Nat) (vs : List EE), s3 = .int .i64 (j : Int) ∧ j ≤ n ∧ CIn w B ea n ec E vs wr ∧ Below w.heap.size w wr ∧ Blk wr X 27 #[.int .i64 k, .int .u64 (f : Int), .int .u64 (o : Int), .int .u64 (t : Int), .int .u64 (i : Int), .int .u64 (l : Int), .int .u64 (c : Int), .int .u64 (s : Int), .bool y, .slice ea n ec, .slice b nb cb, .slice d nd cd] ∧ Blk wr (X + 1) 27 zeroM) (fun s3 _ => n - (intOf s3).toNat)
  case atStart => exact ⟨0, us, rfl, Nat.zero_le _, HIn0.out, HB3.out, HX.out, HR.out⟩
  case round =>
    obtain ⟨j, vs, rfl, hj, hin, hbl, hx, hr⟩ := hrel
    clear HIn0 HB3 HX HR
    have c9 : wr.cell? ⟨X, 9, none⟩ = some (.slice ea n ec) := by rw [hx.cell]; rfl
    have c10 : wr.cell? ⟨X, 10, none⟩ = some (.slice b nb cb) := by rw [hx.cell]; rfl
    have HIn := Lib.hid hin
    have HBl := Lib.hid hbl
    have HX := Lib.hid hx
    have HR := Lib.hid hr
    clear hin hbl hx hr
    by_cases hlt : j < n
    · obtain ⟨u, hu⟩ : ∃ u, vs[j]? = some u := ⟨vs[j]'(by have := HIn.out.len; omega), List.getElem?_eq_getElem _⟩
      obtain ⟨g, cur, rfl, hgB, hblk, hec, hcs, htk⟩ := row_blk HIn.out.row (HIn.out.len.symm) (by omega)
      have HU := Lib.hid hu
      have HBlk := Lib.hid hblk
      have HCe := Lib.hid (HIn.out.ce u (List.mem_of_getElem? hu))
      have HHas := Lib.hid (HCe.out.has HBl.out)
      have HMl := Lib.hid HCe.out.ml
      have HGl := Lib.hid (show g < wr.heap.size ∧ w.heap.size ≤ g from ⟨hblk.lt, Nat.le_trans HBw.out hgB⟩)
      have HXg := Lib.hid (show X + 1 < g by omega)
      have HXl := Lib.hid (show X < wr.heap.size from HX.out.lt)
      have HC9 := Lib.hid c9
      have HIX := Lib.hid (fun W => show (Instr.indexAt 23 (.slice (some ⟨g, 0, none⟩) n ec) (.int .i64 (j : Int))).run Try.prog W = .ok (.pointer (some ⟨g, j * 6, none⟩)) W by
        have h := ix_ent W ⟨g, 0, none⟩ n ec j hlt
        rwa [addr_add, Nat.zero_add] at h)
      have hcell : ∀ q v, u.cells[q]? = some v → wr.cell? ⟨g, j * 6 + q, none⟩ = some v := fun q v hq => by
        obtain ⟨ad, e1, h⟩ := HIn.out.row.els.load hu
        cases e1
        have h2 := h q v hq
        rwa [addr_add, addr_add, Nat.zero_add] at h2
      have HCell4 := Lib.hid (hcell 4 (.slice u.a u.e.d.length u.ca) rfl)
      have HCell5 := Lib.hid (hcell 5 (.slice u.b u.e.m.length u.cb) rfl)
      have HLt4 := Lib.hid (show j * 6 + 4 < cur.size by rw [hcs]; omega)
      have HLt5 := Lib.hid (show j * 6 + 5 < cur.size by rw [hcs]; omega)
      have hBW : B ≤ wr.heap.size := Nat.le_trans hgB (Nat.le_of_lt hblk.lt)
      have HCur := Lib.hid hcs
      have HgB := Lib.hid hgB
      clear hu hblk hcs htk hcell c10 hec hgB
      go_upto_region 5 with fail
      clear c9
      have hG : ∀ W W' : World, Below wr.heap.size wr W → Below W.heap.size W W' → Below wr.heap.size wr W' := fun W W' hW hb => hW.trans (hb.mono hW.size)
      refine region_tails_by 13 [(16, .is (.pointer (some ⟨X, 9, none⟩))), (17, .is (.slice (some ⟨g, 0, none⟩) n ec)), (18, .is (.int .i64 (j : Int))), (19, .lit wr.heap.size), (20, .is (.pointer (some ⟨X, 9, none⟩))), (21, .is (.slice (some ⟨g, 0, none⟩) n ec)), (22, .is (.int .i64 (j : Int))), (23, .is (.pointer (some ⟨g, j * 6, none⟩))), (24, .is (.pointer (some ⟨g, j * 6 + 4, none⟩))), (25, .is (.slice u.a u.e.d.length u.ca)), (26, .row wr.heap.size u.e.d), (27, .is (.pointer (some ⟨g, j * 6, none⟩))), (28, .is (.pointer (some ⟨g, j * 6 + 4, none⟩)))] [0, 1, 2, 3, 4, 5, 6, 7, 8, 42, 43, 44, 45, 46, 47, 48, 49, 50, 51, 52, 26, 28] (fun W => Below wr.heap.size wr W) (by kernel_rfl) (by kernel_rfl) (by kernel_rfl) (by kernel_rfl) (by kernel_rfl) (by decide) (by kernel_rfl) (by kernel_rfl) ((Below.refl _ _).drew) ?_ ?_
      · refine ⟨?c0, ?c1, ?c2, ?c3, ?c4, ?c5, ?c6, ?c7, ?c8, ?c9, ?c10, ?c11, ?c12, trivial⟩
        case c0 => exact ask_field (guard_none rfl) _ (.tmp 1) 9 (.pointer (some ⟨X, 0, none⟩)) (.pointer (some ⟨X, 9, none⟩)) rfl rfl (by intro k hk; cases hk; rfl) (fun W => by kernel_rfl)
        case c1 => exact ask_load (guard_none rfl) _ (.tmp 16) (.pointer (some ⟨X, 9, none⟩)) (.slice (some ⟨g, 0, none⟩) n ec) rfl rfl (by intro k hk; cases hk; rfl) (fun W hW => load_esm W _ _ (by rw [hW.cell (p := ⟨X, 9, none⟩) HXl.out]; exact HC9.out))
        case c2 => exact ask_copy (guard_none rfl) (.tmp 3) (.inl rfl) (by intro k hk; cases hk; rfl)
        case c3 => exact ask_build_lit hG (guard_none rfl) wr.heap.size (fun W h => h.size) rfl (by intro k hk; cases hk; rfl)
        case c4 => exact ask_field (guard_none rfl) _ (.tmp 1) 9 (.pointer (some ⟨X, 0, none⟩)) (.pointer (some ⟨X, 9, none⟩)) rfl rfl (by intro k hk; cases hk; rfl) (fun W => by kernel_rfl)
        case c5 => exact ask_load (guard_none rfl) _ (.tmp 20) (.pointer (some ⟨X, 9, none⟩)) (.slice (some ⟨g, 0, none⟩) n ec) rfl rfl (by intro k hk; cases hk; rfl) (fun W hW => load_esm W _ _ (by rw [hW.cell (p := ⟨X, 9, none⟩) HXl.out]; exact HC9.out))
        case c6 => exact ask_copy (guard_none rfl) (.tmp 3) (.inl rfl) (by intro k hk; cases hk; rfl)
        case c7 => exact ask_indexM (guard_none rfl) _ (.tmp 21) (.tmp 22) _ _ (.pointer (some ⟨g, j * 6, none⟩)) rfl rfl rfl (by intro k hk; cases hk; rfl) HIX.out
        case c8 => exact ask_field (guard_none rfl) _ (.tmp 23) 4 (.pointer (some ⟨g, j * 6, none⟩)) (.pointer (some ⟨g, j * 6 + 4, none⟩)) rfl rfl (by intro k hk; cases hk; rfl) (fun W => by kernel_rfl)
        case c9 => exact ask_load (guard_none rfl) _ (.tmp 24) (.pointer (some ⟨g, j * 6 + 4, none⟩)) (.slice u.a u.e.d.length u.ca) rfl rfl (by intro k hk; cases hk; rfl) (fun W hW => load_bsm W _ _ (by rw [hW.cell (p := ⟨g, j * 6 + 4, none⟩) HGl.out.1]; exact HCell4.out))
        case c10 => exact ask_append_lit hG (guard_none rfl) (.tmp 19) (.tmp 25) wr.heap.size u.e.d (by kernel_rfl) rfl rfl (fun q W hW ht => by have e := told_op ht (.tmp 25) (by simp [Op.operands, Call.operands]); have e2 : evalBy q (.tmp 25) = (.slice u.a u.e.d.length u.ca) := e; rw [e2]; exact (HHas.out.below (Nat.le_refl _) hW).d) (by have := HHas.out.dl; omega) (fun q hq => .inl (by cases hq; rfl))
        case c11 => exact ask_indexM (guard_none rfl) _ (.tmp 17) (.tmp 18) _ _ (.pointer (some ⟨g, j * 6, none⟩)) rfl rfl rfl (by intro k hk; cases hk; rfl) HIX.out
        case c12 => exact ask_field (guard_none rfl) _ (.tmp 27) 4 (.pointer (some ⟨g, j * 6, none⟩)) (.pointer (some ⟨g, j * 6 + 4, none⟩)) rfl rfl (by intro k hk; cases hk; rfl) (fun W => by kernel_rfl)
      intro af wq hW hd' hs' hf'
      have t0 : af.tmps.getD 0 undef = .agg #[.int .i64 k, .int .u64 (f : Int), .int .u64 (o : Int), .int .u64 (t : Int), .int .u64 (i : Int), .int .u64 (l : Int), .int .u64 (c : Int), .int .u64 (s : Int), .bool y, .slice a n ca, .slice b nb cb, .slice d nd cd] := hf' 0 rfl
      have t1 : af.tmps.getD 1 undef = .pointer (some ⟨X, 0, none⟩) := hf' 1 rfl
      have t2 : af.tmps.getD 2 undef = .pointer (some ⟨X + 1, 0, none⟩) := hf' 2 rfl
      have t3 : af.tmps.getD 3 undef = .int .i64 (j : Int) := hf' 3 rfl
      have t4 : af.tmps.getD 4 undef = .slice (some ⟨w1.heap.size, 0, none⟩) 0 0 := hf' 4 rfl
      have t5 : af.tmps.getD 5 undef = .pointer (some ⟨X, 9, none⟩) := hf' 5 rfl
      have t6 : af.tmps.getD 6 undef = .slice a n ca := hf' 6 rfl
      have t7 : af.tmps.getD 7 undef = .slice (some ⟨g, 0, none⟩) n ec := hf' 7 rfl
      have t8 : af.tmps.getD 8 undef = .pointer (some ⟨X, 9, none⟩) := hf' 8 rfl
      have t28 : af.tmps.getD 28 undef = .pointer (some ⟨g, j * 6 + 4, none⟩) := hf' 28 rfl
      have t42 : af.tmps.getD 42 undef = undef := hf' 42 rfl
      have t43 : af.tmps.getD 43 undef = undef := hf' 43 rfl
      have t44 : af.tmps.getD 44 undef = undef := hf' 44 rfl
      have t45 : af.tmps.getD 45 undef = undef := hf' 45 rfl
      have t46 : af.tmps.getD 46 undef = undef := hf' 46 rfl
      have t47 : af.tmps.getD 47 undef = undef := hf' 47 rfl
      have t48 : af.tmps.getD 48 undef = undef := hf' 48 rfl
      have t49 : af.tmps.getD 49 undef = undef := hf' 49 rfl
      have t50 : af.tmps.getD 50 undef = undef := hf' 50 rfl
      have t51 : af.tmps.getD 51 undef = undef := hf' 51 rfl
      have t52 : af.tmps.getD 52 undef = undef := hf' 52 rfl
      have hrow : Row wq wr.heap.size (af.tmps.getD 26 undef) u.e.d := hf' 26 rfl
      obtain ⟨tv, hus, haf⟩ := act_open 53 af hs' hd'
      rw [← hus] at hrow t0 t1 t2 t3 t4 t5 t6 t7 t8 t28 t42 t43 t44 t45 t46 t47 t48 t49 t50 t51 t52
      have el : ((List.range 53).map tv).toArray = #[.agg #[.int .i64 k, .int .u64 (f : Int), .int .u64 (o : Int), .int .u64 (t : Int), .int .u64 (i : Int), .int .u64 (l : Int), .int .u64 (c : Int), .int .u64 (s : Int), .bool y, .slice a n ca, .slice b nb cb, .slice d nd cd], .pointer (some ⟨X, 0, none⟩), .pointer (some ⟨X + 1, 0, none⟩), .int .i64 (j : Int), .slice (some ⟨w1.heap.size, 0, none⟩) 0 0, .pointer (some ⟨X, 9, none⟩), .slice a n ca, .slice (some ⟨g, 0, none⟩) n ec, .pointer (some ⟨X, 9, none⟩), tv 9, tv 10, tv 11, tv 12, tv 13, tv 14, tv 15, tv 16, tv 17, tv 18, tv 19, tv 20, tv 21, tv 22, tv 23, tv 24, tv 25, tv 26, tv 27, .pointer (some ⟨g, j * 6 + 4, none⟩), tv 29, tv 30, tv 31, tv 32, tv 33, tv 34, tv 35, tv 36, tv 37, tv 38, tv 39, tv 40, tv 41, undef, undef, undef, undef, undef, undef, undef, undef, undef, undef, undef] := by
        show #[tv 0, tv 1, tv 2, tv 3, tv 4, tv 5, tv 6, tv 7, tv 8, tv 9, tv 10, tv 11, tv 12, tv 13, tv 14, tv 15, tv 16, tv 17, tv 18, tv 19, tv 20, tv 21, tv 22, tv 23, tv 24, tv 25, tv 26, tv 27, tv 28, tv 29, tv 30, tv 31, tv 32, tv 33, tv 34, tv 35, tv 36, tv 37, tv 38, tv 39, tv 40, tv 41, tv 42, tv 43, tv 44, tv 45, tv 46, tv 47, tv 48, tv 49, tv 50, tv 51, tv 52] = _
        rw [t0, t1, t2, t3, t4, t5, t6, t7, t8, t28, t42, t43, t44, t45, t46, t47, t48, t49, t50, t51, t52]
      rw [el] at haf
      subst haf
      obtain ⟨na, nac, hva⟩ : ∃ p q, tv 26 = .slice p u.e.d.length q := hrow.bys.shape
      rw [hva] at hrow ⊢
      have HRow := Lib.hid hrow
      have HW := Lib.hid hW
      clear hus hva el hf' hs' hd' hrow hW hG t0 t1 t2 t3 t4 t5 t6 t7 t8 t28 t42 t43 t44 t45 t46 t47 t48 t49 t50 t51 t52
      simp only [List.drop_succ_cons, List.drop_zero]
      go_upto_region 6 with (refine wpList_store_fld rfl 25 (.tmp 28) (.tmp 26) rfl g (j * 6 + 4) (.slice na u.e.d.length nac) rfl rfl 42 cur (cur.setIfInBounds (j * 6 + 4) (.slice na u.e.d.length nac)) (HBlk.out.keep HW.out) HLt4.out rfl (by kernel_rfl) rfl ?_; intro wn hb ho; (have HIn2 := Lib.hid (HIn.out.putD HW.out HBlk.out HU.out HRow.out hBW HGl.out.1 hb ho)); (have HBl2 := Lib.hid (HBl.out.trans ((HW.out.mono HBl.out.size).trans (ho.below (fun q hq e => by have := HGl.out.2; omega) (Nat.le_trans HBl.out.size HW.out.size))))); (have HX2 := Lib.hid ((HX.out.keep HW.out).onlyS ho (by have := HXg.out; omega))); (have HR2 := Lib.hid ((HR.out.keep HW.out).onlyS ho (by have := HXg.out; omega))); (have HB2 := Lib.hid hb); clear hb ho)
      obtain ⟨u2, hu2⟩ : ∃ u2 : EE, u2 = ⟨u.e, na, nac, u.b, u.cb⟩ := ⟨_, rfl⟩
      have hvj : (vs.set j u2)[j]? = some u2 := by rw [List.getElem?_set_self (by have := HIn.out.len; omega)]
      rw [← hu2] at HIn2
      obtain ⟨vs2, hvs2⟩ : ∃ v, v = vs.set j u2 := ⟨_, rfl⟩
      rw [← hvs2] at HIn2 hvj
      obtain ⟨cur2, hcur2⟩ : ∃ z, z = cur.setIfInBounds (j * 6 + 4) (.slice na u.e.d.length nac) := ⟨_, rfl⟩
      have hsz2 : cur2.size = cur.size := by rw [hcur2]; simp
      rw [← hcur2] at HB2
      have hbB : u2.b = u.b ∧ u2.cb = u.cb ∧ u2.e = u.e := by rw [hu2]; exact ⟨rfl, rfl, rfl⟩
      clear hcur2 hvs2 hu2
      have hcell : ∀ q v, u2.cells[q]? = some v → wn.cell? ⟨g, j * 6 + q, none⟩ = some v := fun q v hq => by
        obtain ⟨ad, e1, h⟩ := HIn2.out.row.els.load hvj
        cases e1
        have h2 := h q v hq
        rwa [addr_add, addr_add, Nat.zero_add] at h2
      have HCell6 := Lib.hid (hcell 5 (.slice u2.b u2.e.m.length u2.cb) rfl)
      have HU2 := Lib.hid hvj
      have HCe2 := Lib.hid (HIn2.out.ce u2 (List.mem_of_getElem? hvj))
      have HHas2 := Lib.hid (HCe2.out.has HBl2.out)
      have HMl2 := Lib.hid HCe2.out.ml
      have HGl2 := Lib.hid (show g < wn.heap.size ∧ w.heap.size ≤ g from ⟨HB2.out.lt, HGl.out.2⟩)
      have HXl2 := Lib.hid (show X < wn.heap.size from HX2.out.lt)
      have HC92 : Hid (wn.cell? ⟨X, 9, none⟩ = some (.slice (some ⟨g, 0, none⟩) n ec)) := Lib.hid (by rw [HX2.out.cell]; rfl)
      have HLt52 := Lib.hid (show j * 6 + 5 < cur2.size by rw [hsz2]; exact HLt5.out)
      have hBW2 : B ≤ wn.heap.size := Nat.le_trans HgB.out (Nat.le_of_lt HGl2.out.1)
      clear hcell hvj hsz2 hbB HRow HW HIn HBl HX HR HU HBlk HCe HHas HMl HGl HXl HC9 HCell4 HCell5 HLt4 HLt5 HCur hBW
      have hG : ∀ W W' : World, Below wn.heap.size wn W → Below W.heap.size W W' → Below wn.heap.size wn W' := fun W W' hW hb => hW.trans (hb.mono hW.size)
      refine region_tails_by 13 [(29, .is (.pointer (some ⟨X, 9, none⟩))), (30, .is (.slice (some ⟨g, 0, none⟩) n ec)), (31, .is (.int .i64 (j : Int))), (32, nlitF wn.heap.size), (33, .is (.pointer (some ⟨X, 9, none⟩))), (34, .is (.slice (some ⟨g, 0, none⟩) n ec)), (35, .is (.int .i64 (j : Int))), (36, .is (.pointer (some ⟨g, j * 6, none⟩))), (37, .is (.pointer (some ⟨g, j * 6 + 5, none⟩))), (38, .is (.slice u2.b u2.e.m.length u2.cb)), (39, nrowF wn.heap.size u2.e.m), (40, .is (.pointer (some ⟨g, j * 6, none⟩))), (41, .is (.pointer (some ⟨g, j * 6 + 5, none⟩)))] [0, 1, 2, 3, 4, 5, 6, 7, 8, 42, 43, 44, 45, 46, 47, 48, 49, 50, 51, 52, 39, 41] (fun W => Below wn.heap.size wn W) (by kernel_rfl) (by kernel_rfl) (by kernel_rfl) (by kernel_rfl) (by kernel_rfl) (by decide) (by kernel_rfl) (by kernel_rfl) ((Below.refl _ _).drew) ?_ ?_
      · refine ⟨?c0, ?c1, ?c2, ?c3, ?c4, ?c5, ?c6, ?c7, ?c8, ?c9, ?c10, ?c11, ?c12, trivial⟩
        case c0 => exact ask_field (guard_none rfl) _ (.tmp 1) 9 (.pointer (some ⟨X, 0, none⟩)) (.pointer (some ⟨X, 9, none⟩)) rfl rfl (by intro k hk; cases hk; rfl) (fun W => by kernel_rfl)
        case c1 => exact ask_load (guard_none rfl) _ (.tmp 29) (.pointer (some ⟨X, 9, none⟩)) (.slice (some ⟨g, 0, none⟩) n ec) rfl rfl (by intro k hk; cases hk; rfl) (fun W hW => load_esm W _ _ (by rw [hW.cell (p := ⟨X, 9, none⟩) HXl2.out]; exact HC92.out))
        case c2 => exact ask_copy (guard_none rfl) (.tmp 3) (.inl rfl) (by intro k hk; cases hk; rfl)
        case c3 => exact ask_build_nlit hG (guard_none rfl) wn.heap.size (fun W h => h.size) rfl (by intro k hk; cases hk; rfl)
        case c4 => exact ask_field (guard_none rfl) _ (.tmp 1) 9 (.pointer (some ⟨X, 0, none⟩)) (.pointer (some ⟨X, 9, none⟩)) rfl rfl (by intro k hk; cases hk; rfl) (fun W => by kernel_rfl)
        case c5 => exact ask_load (guard_none rfl) _ (.tmp 33) (.pointer (some ⟨X, 9, none⟩)) (.slice (some ⟨g, 0, none⟩) n ec) rfl rfl (by intro k hk; cases hk; rfl) (fun W hW => load_esm W _ _ (by rw [hW.cell (p := ⟨X, 9, none⟩) HXl2.out]; exact HC92.out))
        case c6 => exact ask_copy (guard_none rfl) (.tmp 3) (.inl rfl) (by intro k hk; cases hk; rfl)
        case c7 => exact ask_indexM (guard_none rfl) _ (.tmp 34) (.tmp 35) _ _ (.pointer (some ⟨g, j * 6, none⟩)) rfl rfl rfl (by intro k hk; cases hk; rfl) HIX.out
        case c8 => exact ask_field (guard_none rfl) _ (.tmp 36) 5 (.pointer (some ⟨g, j * 6, none⟩)) (.pointer (some ⟨g, j * 6 + 5, none⟩)) rfl rfl (by intro k hk; cases hk; rfl) (fun W => by kernel_rfl)
        case c9 => exact ask_load (guard_none rfl) _ (.tmp 37) (.pointer (some ⟨g, j * 6 + 5, none⟩)) (.slice u2.b u2.e.m.length u2.cb) rfl rfl (by intro k hk; cases hk; rfl) (fun W hW => load_nsm W _ _ (by rw [hW.cell (p := ⟨g, j * 6 + 5, none⟩) HGl2.out.1]; exact HCell6.out))
        case c10 => exact ask_append_nlit hG (guard_none rfl) (.tmp 32) (.tmp 38) wn.heap.size u2.e.m (by kernel_rfl) rfl rfl (fun q W hW ht => by have e := told_op ht (.tmp 38) (by simp [Op.operands, Call.operands]); have e2 : evalBy q (.tmp 38) = (.slice u2.b u2.e.m.length u2.cb) := e; rw [e2]; exact (HHas2.out.below (Nat.le_refl _) hW).m) HMl2.out (by intro k hk; cases hk; rfl)
        case c11 => exact ask_indexM (guard_none rfl) _ (.tmp 30) (.tmp 31) _ _ (.pointer (some ⟨g, j * 6, none⟩)) rfl rfl rfl (by intro k hk; cases hk; rfl) HIX.out
        case c12 => exact ask_field (guard_none rfl) _ (.tmp 40) 5 (.pointer (some ⟨g, j * 6, none⟩)) (.pointer (some ⟨g, j * 6 + 5, none⟩)) rfl rfl (by intro k hk; cases hk; rfl) (fun W => by kernel_rfl)
      intro af wq2 hW hd' hs' hf'
      have t0 : af.tmps.getD 0 undef = .agg #[.int .i64 k, .int .u64 (f : Int), .int .u64 (o : Int), .int .u64 (t : Int), .int .u64 (i : Int), .int .u64 (l : Int), .int .u64 (c : Int), .int .u64 (s : Int), .bool y, .slice a n ca, .slice b nb cb, .slice d nd cd] := hf' 0 rfl
      have t1 : af.tmps.getD 1 undef = .pointer (some ⟨X, 0, none⟩) := hf' 1 rfl
      have t2 : af.tmps.getD 2 undef = .pointer (some ⟨X + 1, 0, none⟩) := hf' 2 rfl
      have t3 : af.tmps.getD 3 undef = .int .i64 (j : Int) := hf' 3 rfl
      have t4 : af.tmps.getD 4 undef = .slice (some ⟨w1.heap.size, 0, none⟩) 0 0 := hf' 4 rfl
      have t5 : af.tmps.getD 5 undef = .pointer (some ⟨X, 9, none⟩) := hf' 5 rfl
      have t6 : af.tmps.getD 6 undef = .slice a n ca := hf' 6 rfl
      have t7 : af.tmps.getD 7 undef = .slice (some ⟨g, 0, none⟩) n ec := hf' 7 rfl
      have t8 : af.tmps.getD 8 undef = .pointer (some ⟨X, 9, none⟩) := hf' 8 rfl
      have t41 : af.tmps.getD 41 undef = .pointer (some ⟨g, j * 6 + 5, none⟩) := hf' 41 rfl
      have t42 : af.tmps.getD 42 undef = undef := hf' 42 rfl
      have t43 : af.tmps.getD 43 undef = undef := hf' 43 rfl
      have t44 : af.tmps.getD 44 undef = undef := hf' 44 rfl
      have t45 : af.tmps.getD 45 undef = undef := hf' 45 rfl
      have t46 : af.tmps.getD 46 undef = undef := hf' 46 rfl
      have t47 : af.tmps.getD 47 undef = undef := hf' 47 rfl
      have t48 : af.tmps.getD 48 undef = undef := hf' 48 rfl
      have t49 : af.tmps.getD 49 undef = undef := hf' 49 rfl
      have t50 : af.tmps.getD 50 undef = undef := hf' 50 rfl
      have t51 : af.tmps.getD 51 undef = undef := hf' 51 rfl
      have t52 : af.tmps.getD 52 undef = undef := hf' 52 rfl
      have hrow : NRow wq2 wn.heap.size (af.tmps.getD 39 undef) u2.e.m := hf' 39 rfl
      obtain ⟨tw, hus, haf⟩ := act_open 53 af hs' hd'
      rw [← hus] at hrow t0 t1 t2 t3 t4 t5 t6 t7 t8 t41 t42 t43 t44 t45 t46 t47 t48 t49 t50 t51 t52
      have el : ((List.range 53).map tw).toArray = #[.agg #[.int .i64 k, .int .u64 (f : Int), .int .u64 (o : Int), .int .u64 (t : Int), .int .u64 (i : Int), .int .u64 (l : Int), .int .u64 (c : Int), .int .u64 (s : Int), .bool y, .slice a n ca, .slice b nb cb, .slice d nd cd], .pointer (some ⟨X, 0, none⟩), .pointer (some ⟨X + 1, 0, none⟩), .int .i64 (j : Int), .slice (some ⟨w1.heap.size, 0, none⟩) 0 0, .pointer (some ⟨X, 9, none⟩), .slice a n ca, .slice (some ⟨g, 0, none⟩) n ec, .pointer (some ⟨X, 9, none⟩), tw 9, tw 10, tw 11, tw 12, tw 13, tw 14, tw 15, tw 16, tw 17, tw 18, tw 19, tw 20, tw 21, tw 22, tw 23, tw 24, tw 25, tw 26, tw 27, tw 28, tw 29, tw 30, tw 31, tw 32, tw 33, tw 34, tw 35, tw 36, tw 37, tw 38, tw 39, tw 40, .pointer (some ⟨g, j * 6 + 5, none⟩), undef, undef, undef, undef, undef, undef, undef, undef, undef, undef, undef] := by
        show #[tw 0, tw 1, tw 2, tw 3, tw 4, tw 5, tw 6, tw 7, tw 8, tw 9, tw 10, tw 11, tw 12, tw 13, tw 14, tw 15, tw 16, tw 17, tw 18, tw 19, tw 20, tw 21, tw 22, tw 23, tw 24, tw 25, tw 26, tw 27, tw 28, tw 29, tw 30, tw 31, tw 32, tw 33, tw 34, tw 35, tw 36, tw 37, tw 38, tw 39, tw 40, tw 41, tw 42, tw 43, tw 44, tw 45, tw 46, tw 47, tw 48, tw 49, tw 50, tw 51, tw 52] = _
        rw [t0, t1, t2, t3, t4, t5, t6, t7, t8, t41, t42, t43, t44, t45, t46, t47, t48, t49, t50, t51, t52]
      rw [el] at haf
      subst haf
      obtain ⟨mb, mbc, hva⟩ : ∃ p q, tw 39 = .slice p u2.e.m.length q := hrow.nums.shape
      rw [hva] at hrow ⊢
      have HRow2 := Lib.hid hrow
      have HW2 := Lib.hid hW
      clear hus hva el hf' hs' hd' hrow hW hG t0 t1 t2 t3 t4 t5 t6 t7 t8 t41 t42 t43 t44 t45 t46 t47 t48 t49 t50 t51 t52
      simp only [List.drop_succ_cons, List.drop_zero]
      go_wp2_with (refine wpList_store_fld rfl 24 (.tmp 41) (.tmp 39) rfl g (j * 6 + 5) (.slice mb u2.e.m.length mbc) rfl rfl 42 cur2 (cur2.setIfInBounds (j * 6 + 5) (.slice mb u2.e.m.length mbc)) (HB2.out.keep HW2.out) HLt52.out rfl (by kernel_rfl) rfl ?_; intro wo hb ho; (have HIn3 := Lib.hid (HIn2.out.putM HW2.out HB2.out HU2.out HRow2.out hBW2 HGl2.out.1 hb ho)); (have HBl3 := Lib.hid (HBl2.out.trans ((HW2.out.mono HBl2.out.size).trans (ho.below (fun q hq e => by have := HGl2.out.2; omega) (Nat.le_trans HBl2.out.size HW2.out.size))))); (have HX3 := Lib.hid ((HX2.out.keep HW2.out).onlyS ho (by have := HXg.out; omega))); (have HR3 := Lib.hid ((HR2.out.keep HW2.out).onlyS ho (by have := HXg.out; omega))); (have HB3q := Lib.hid hb); clear hb ho)
      go_roundw
      case rel => exact ⟨j + 1, _, by go_num, by omega, HIn3.out, HBl3.out, HX3.out, HR3.out⟩
      case measure => simp [intOf]; omega
    · obtain rfl : n = j := by omega
      have hlm := (Below.refl wr.heap.size wr).alloc (Nat.le_refl _) (.cells #[] 22)
      have A2 := Lib.hid (append_num_lit (B := wr.heap.size) (Nat.le_refl _) (heap_alloc_new wr (.cells #[] 22)) ((HM.out.ms.below (Nat.le_refl _) HBl.out).below (Nat.le_refl _) hlm) hm8)
      have cm : (wr.alloc (.cells #[] 22)).cell? ⟨X, 10, none⟩ = some (.slice b nb cb) := by rw [(HX.out.alloc _).cell]; rfl
      have J1 := Lib.hid (HX.out.alloc (.cells #[] 22))
      have J2 := Lib.hid (HR.out.alloc (.cells #[] 22))
      have J3 := Lib.hid (HIn.out.below hlm)
      have J4 := Lib.hid (HBl.out.trans (hlm.mono HBl.out.size))
      have hbw : B ≤ wr.heap.size ∨ True := .inr trivial
      clear hlm c10 hbw HIn HBl HX HR
      go_upto_region 8 with (first
        | (at_builtin; refine wpList_append_by rfl _ _ 24 rfl _ _ rfl rfl _ A2.out ?_; rintro v4 w4 ⟨hr, hb⟩; obtain ⟨ma, mc, rfl⟩ : ∃ p q, v4 = .slice p nb q := (by obtain ⟨p, q, e⟩ := hr.nums.shape; exact ⟨p, q, by rw [e, HNB.out]⟩); (have HRm := Lib.hid hr); (have J5 := Lib.hid (J1.out.keep hb)); (have J6 := Lib.hid (J2.out.keep hb)); (have J7 := Lib.hid (J3.out.below hb)); (have J8 := Lib.hid (J4.out.trans (hb.mono J4.out.size))); clear hr hb cm)
        | (refine wpList_store_fld rfl 24 (.tmp 46) (.tmp 45) rfl X 10 (.slice ma nb mc) rfl rfl 27 #[.int .i64 k, .int .u64 (f : Int), .int .u64 (o : Int), .int .u64 (t : Int), .int .u64 (i : Int), .int .u64 (l : Int), .int .u64 (c : Int), .int .u64 (s : Int), .bool y, .slice ea n ec, .slice b nb cb, .slice d nd cd] #[.int .i64 k, .int .u64 (f : Int), .int .u64 (o : Int), .int .u64 (t : Int), .int .u64 (i : Int), .int .u64 (l : Int), .int .u64 (c : Int), .int .u64 (s : Int), .bool y, .slice ea n ec, .slice ma nb mc, .slice d nd cd] J5.out (by simp) rfl (by kernel_rfl) rfl ?_; intro w5 hb ho; (have L1 := Lib.hid hb); (have L2 := Lib.hid (J6.out.onlyS ho (by omega))); (have L3 := Lib.hid (J7.out.msg J5.out ho)); (have L4 := Lib.hid (HRm.out.msg J5.out ho)); (have L5 := Lib.hid (J8.out.trans (ho.below (fun q hq e => by have := HXw.out; omega) J8.out.size))); clear hb ho))
      have hlg := (Below.refl w5.heap.size w5).alloc (Nat.le_refl _) (.cells #[] 5)
      have A3 := Lib.hid (append_lit (B := w5.heap.size) (Nat.le_refl _) (heap_alloc_new w5 (.cells #[] 5)) ((HM.out.gs.below (Nat.le_refl _) L5.out).below (Nat.le_refl _) hlg) (by have := HM.out.gl; omega))
      have cg : (w5.alloc (.cells #[] 5)).cell? ⟨X, 11, none⟩ = some (.slice d nd cd) := by rw [(L1.out.alloc _).cell]; rfl
      have P1 := Lib.hid (L1.out.alloc (.cells #[] 5))
      have P2 := Lib.hid (L2.out.alloc (.cells #[] 5))
      have P3 := Lib.hid (L3.out.below hlg)
      have P4 := Lib.hid (L4.out.keep hlg)
      have P5 := Lib.hid (L5.out.trans (hlg.mono L5.out.size))
      clear hlg
      go_wp2_with (first
        | (at_builtin; refine wpList_append_by rfl _ _ 25 rfl _ _ rfl rfl _ A3.out ?_; rintro v6 w6 ⟨hr, hb⟩; obtain ⟨ga, gc, rfl⟩ : ∃ p q, v6 = .slice p nd q := (by obtain ⟨p, q, e⟩ := hr.bys.shape; exact ⟨p, q, by rw [e, HND.out]⟩); (have HRg := Lib.hid hr); (have Q1 := Lib.hid (P1.out.keep hb)); (have Q2 := Lib.hid (P2.out.keep hb)); (have Q3 := Lib.hid (P3.out.below hb)); (have Q4 := Lib.hid (P4.out.keep hb)); (have Q5 := Lib.hid (P5.out.trans (hb.mono P5.out.size))); clear hr hb cg)
        | (refine wpList_store_fld rfl 25 (.tmp 51) (.tmp 50) rfl X 11 (.slice ga nd gc) rfl rfl 27 #[.int .i64 k, .int .u64 (f : Int), .int .u64 (o : Int), .int .u64 (t : Int), .int .u64 (i : Int), .int .u64 (l : Int), .int .u64 (c : Int), .int .u64 (s : Int), .bool y, .slice ea n ec, .slice ma nb mc, .slice d nd cd] #[.int .i64 k, .int .u64 (f : Int), .int .u64 (o : Int), .int .u64 (t : Int), .int .u64 (i : Int), .int .u64 (l : Int), .int .u64 (c : Int), .int .u64 (s : Int), .bool y, .slice ea n ec, .slice ma nb mc, .slice ga nd gc] Q1.out (by simp) rfl (by kernel_rfl) rfl ?_; intro w7 hb ho; (have R1 := Lib.hid hb); (have R2 := Lib.hid (Q2.out.onlyS ho (by omega))); (have R3 := Lib.hid (Q3.out.msg Q1.out ho)); (have R4 := Lib.hid (Q4.out.msg Q1.out ho)); (have R6 := Lib.hid (row_to HRg.out fun q hq => ho.block q (World.ownsRow.lt HRg.out q hq).2 (fun e => ownsRow_apart HRg.out Q1.out (by decide) (by rw [hq, e])))); (have R5 := Lib.hid (Q5.out.trans (ho.below (fun q hq e => by have := HXw.out; omega) Q5.out.size))); clear hb ho)
        | (refine wpList_load_by rfl 27 (.tmp 1) rfl _ _ rfl (R1.out.loads 27 _ Try.underlying27 rfl rfl) ?_)
        | (refine wpList_store_all rfl 27 (.tmp 2) (.tmp 52) rfl (X + 1) #[.int .i64 k, .int .u64 (f : Int), .int .u64 (o : Int), .int .u64 (t : Int), .int .u64 (i : Int), .int .u64 (l : Int), .int .u64 (c : Int), .int .u64 (s : Int), .bool y, .slice ea n ec, .slice ma nb mc, .slice ga nd gc] rfl rfl 27 zeroM R2.out (by kernel_rfl) rfl (by simp [Value.oneCell']) ?_; intro w8 hb ho; (have S1 := Lib.hid hb); (have S3 := Lib.hid (R3.out.msg R2.out ho)); (have S4 := Lib.hid (R4.out.msg R2.out ho)); (have S6 := Lib.hid (row_to R6.out fun q hq => ho.block q (World.ownsRow.lt R6.out q hq).2 (fun e => ownsRow_apart R6.out R2.out (by decide) (by rw [hq, e])))); (have S5 := Lib.hid (R5.out.trans (ho.below (fun q hq e => by have := HXw.out; omega) R5.out.size))); clear hb ho))
      exact bodyPost_ret (v := .agg #[.int .i64 k, .int .u64 (f : Int), .int .u64 (o : Int), .int .u64 (t : Int), .int .u64 (i : Int), .int .u64 (l : Int), .int .u64 (c : Int), .int .u64 (s : Int), .bool y, .slice ea n ec, .slice ma nb mc, .slice ga nd gc]) (results_cell_row rfl _ _ (X + 1) 27 _ (0, 0) _ rfl S1.out Try.underlying27 rfl rfl) rfl ⟨_, _, _, rfl, ⟨vs, ⟨HM.out.ok, S3.out.row.els, fun u hu => (S3.out.ce u hu).has S5.out, by rw [S3.out.same, HEE.out]; exact HM.out.ents, S4.out.nums, S6.out.bys, by have := S3.out.len; omega, HM.out.ml, HM.out.gl⟩⟩, S5.out⟩
end Go.Proofs.Ytidapdooiibfnaa

