/- Joined: MsgSt, MsgTaker, MsgEls, MsgGetKit. -/
import Derived.Test.YtidapdooiibfnaaHH
import Derived.Test.YtidapdooiibfnaaHK
import Derived.Test.YtidapdooiibfnaaHJ
import Derived.Test.YtidapdooiibfnaaYA
/- Layer 18: readings one behind the other, of which the first fault is kept. No program is named here. -/
namespace Go.Proofs.Ytidapdooiibfnaa.MsgMath
set_option maxRecDepth 20000
open BinMath CmdMath

/-- A reading under way: the first fault, or what is left. -/
abbrev St := Except Nat (List UInt8)
def codeS : St → Nat
  | .error c => c
  | .ok _ => 0
def thru {α : Type} (p : Rd α) : St → Except Nat (α × List UInt8)
  | .error c => .error c
  | .ok r => p r
def tag {α : Type} (x : α) : St → Except Nat (α × List UInt8)
  | .error c => .error c
  | .ok r => .ok (x, r)

theorem thru_bind {α β : Type} {p : Rd α} {q : α → Rd β} {st st' : St} {x : α} (h : thru p st = tag x st') : thru (bindP p q) st = thru (q x) st' := by
  cases st with
  | error c =>
    cases st' with
    | error d => simp only [thru, tag, Except.error.injEq] at h ⊢; exact h
    | ok r => cases h
  | ok r =>
    cases st' with
    | error d => exact bindP_err (show p r = .error d from h)
    | ok q' => exact bindP_ok (show p r = .ok (x, q') from h)
theorem thru_ret {α : Type} (x : α) (st : St) : thru (retP x) st = tag x st := by cases st <;> rfl
theorem gNum_lt {r q : List UInt8} {n : Nat} (h : gNum r = .ok (n, q)) : n < 18446744073709551616 := (gNum_back h).1
/-- A number of any range. -/
theorem gRange_most : gRange 0 18446744073709551615 = gNum := by
  funext r
  cases h : gNum r with
  | error c => exact bindP_err h
  | ok p =>
    obtain ⟨n, q⟩ := p
    rw [gRange, bindP_ok h, if_pos ⟨Nat.zero_le _, by have := gNum_lt h; omega⟩]
    rfl
theorem gRange_bad {lo hi c : Nat} {r : List UInt8} (h : gNum r = .error c) : gRange lo hi r = .error c := bindP_err h
theorem gRange_in {lo hi n : Nat} {r q : List UInt8} (h : gNum r = .ok (n, q)) (h1 : lo ≤ n) (h2 : n ≤ hi) : gRange lo hi r = .ok (n, q) := by rw [gRange, bindP_ok h, if_pos ⟨h1, h2⟩]; rfl
theorem gRange_out {lo hi n : Nat} {r q : List UInt8} (h : gNum r = .ok (n, q)) (h1 : ¬ (lo ≤ n ∧ n ≤ hi)) : gRange lo hi r = .error 3 := by rw [gRange, bindP_ok h, if_neg h1]; rfl
theorem gByte_err {l : List UInt8} {c : Nat} (h : gByte l = .error c) : c = 2 := by
  cases l with
  | nil => simpa [gByte] using h.symm
  | cons x r => simp [gByte] at h
theorem gYes_bad {c : Nat} {r : List UInt8} (h : gByte r = .error c) : gYes r = .error c := bindP_err h
theorem gYes_in {n : Nat} {r q : List UInt8} (h : gByte r = .ok (n, q)) (h1 : n ≤ 1) : gYes r = .ok (decide (n = 1), q) := by rw [gYes, bindP_ok h, if_pos h1]; rfl
theorem gYes_out {n : Nat} {r q : List UInt8} (h : gByte r = .ok (n, q)) (h1 : ¬ n ≤ 1) : gYes r = .error 3 := by rw [gYes, bindP_ok h, if_neg h1]; rfl

/-- What Get answers, by its last state. -/
theorem getM_fault {l : List UInt8} {c : Nat} (h : gMsg l = .error c) : getM l = (Mg.zero, c) := by rw [getM, h]
theorem getM_done {l r : List UInt8} {m : Mg} (h : gMsg l = .ok (m, r)) : getM l = if r = [] then (m, 0) else (Mg.zero, 5) := by rw [getM, h]

/-! ### A message, reading by reading -/

theorem msg_nobyte {l : List UInt8} {c : Nat} (h : gByte l = .error c) : gMsg l = .error c := bindP_err h
theorem msg_nokind {l q : List UInt8} {k : Nat} (h : gByte l = .ok (k, q)) (hk : ¬ (1 ≤ k ∧ k ≤ 5)) : gMsg l = .error 3 := by rw [gMsg, bindP_ok h, if_neg hk]; rfl
theorem msg_head {l q : List UInt8} {k f o t : Nat} {s1 s2 s3 : St} (h : gByte l = .ok (k, q)) (hk : 1 ≤ k ∧ k ≤ 5) (h1 : thru (gRange 1 7) (.ok q) = tag f s1) (h2 : thru (gRange 1 7) s1 = tag o s2) (h3 : thru (gRange 1 MT) s2 = tag t s3) :
    gMsg l = thru (gBody k f o t) s3 := by
  have e : gMsg l = thru (bindP (gRange 1 7) fun f => bindP (gRange 1 7) fun o => bindP (gRange 1 MT) fun t => gBody k f o t) (.ok q) := by rw [gMsg, bindP_ok h, if_pos hk]; rfl
  rw [e, thru_bind h1, thru_bind h2, thru_bind h3]
theorem body_1 {f o t i l : Nat} {s3 s4 s5 : St} (h4 : thru (gRange 0 MT) s3 = tag i s4) (h5 : thru (gRange 0 MT) s4 = tag l s5) : thru (gBody 1 f o t) s3 = tag (⟨1, f, o, t, i, l, 0, 0, false, [], [], []⟩ : Mg) s5 := by
  rw [gBody, if_pos rfl, thru_bind h4, thru_bind h5, thru_ret]
theorem body_2 {f o t : Nat} {y : Bool} {s3 s4 : St} (h4 : thru gYes s3 = tag y s4) : thru (gBody 2 f o t) s3 = tag (⟨2, f, o, t, 0, 0, 0, 0, y, [], [], []⟩ : Mg) s4 := by
  rw [gBody, if_neg (by decide), if_pos rfl, thru_bind h4, thru_ret]
theorem body_4 {f o t i s : Nat} {y : Bool} {s3 s4 s5 s6 : St} (h4 : thru gYes s3 = tag y s4) (h5 : thru (gRange 0 MT) s4 = tag i s5) (h6 : thru (gRange 0 18446744073709551615) s5 = tag s s6) : thru (gBody 4 f o t) s3 = tag (⟨4, f, o, t, i, 0, 0, s, y, [], [], []⟩ : Mg) s6 := by
  rw [gRange_most] at h6
  rw [gBody, if_neg (by decide), if_neg (by decide), if_neg (by decide), if_pos rfl, thru_bind h4, thru_bind h5, thru_bind h6, thru_ret]
theorem body_5 {f o t i l s : Nat} {m : List Nat} {g : List UInt8} {s3 s4 s5 s6 s7 s8 : St} (h4 : thru (gRange 0 MT) s3 = tag i s4) (h5 : thru (gRange 0 MT) s4 = tag l s5) (h6 : thru (gRange 0 18446744073709551615) s5 = tag s s6) (h7 : thru gMem s6 = tag m s7) (h8 : thru (gText 16384) s7 = tag g s8) :
    thru (gBody 5 f o t) s3 = tag (⟨5, f, o, t, i, l, 0, s, false, [], m, g⟩ : Mg) s8 := by
  rw [gRange_most] at h6
  rw [gBody, if_neg (by decide), if_neg (by decide), if_neg (by decide), if_neg (by decide), thru_bind h4, thru_bind h5, thru_bind h6, thru_bind h7, thru_bind h8, thru_ret]
/-- The state behind the number of the entries. -/
def manyS (n : Nat) : St → St
  | .error c => .error c
  | .ok r => if n ≤ 4 then .ok r else .error 4
theorem body_3 {f o t i l c s n : Nat} {es : List Ent} {s3 s4 s5 s6 s7 s8 s9 : St} (h4 : thru (gRange 0 MT) s3 = tag i s4) (h5 : thru (gRange 0 MT) s4 = tag l s5) (h6 : thru (gRange 0 MT) s5 = tag c s6) (h7 : thru (gRange 0 18446744073709551615) s6 = tag s s7)
    (h8 : thru (gRange 0 18446744073709551615) s7 = tag n s8) (h9 : thru (gEnts n) (manyS n s8) = tag es s9) : thru (gBody 3 f o t) s3 = tag (⟨3, f, o, t, i, l, c, s, false, es, [], []⟩ : Mg) s9 := by
  rw [gRange_most] at h7 h8
  rw [gBody, if_neg (by decide), if_neg (by decide), if_pos rfl, thru_bind h4, thru_bind h5, thru_bind h6, thru_bind h7, thru_bind h8]
  cases s8 with
  | error d =>
    have e : s9 = .error d := by
      cases s9 with
      | error c => simp only [manyS, thru, tag, Except.error.injEq] at h9; rw [h9]
      | ok r => cases h9
    rw [e]
    rfl
  | ok r =>
    by_cases hn : n ≤ 4
    · rw [if_pos hn]
      simp only [manyS, if_pos hn] at h9
      rw [thru_bind h9, thru_ret]
    · rw [if_neg hn]
      simp only [manyS, if_neg hn] at h9
      have e : s9 = .error 4 := by
        cases s9 with
        | error c => simp only [thru, tag, Except.error.injEq] at h9; rw [h9]
        | ok r => cases h9
      rw [e]
      rfl

/-- The entries that are left, behind those that were read. -/
def moreE (k : Nat) (es : List Ent) : Rd (List Ent) := bindP (gEnts k) fun r => retP (es ++ r)
theorem moreE_start (n : Nat) (st : St) : thru (gEnts n) st = thru (moreE n []) st := by
  cases st with
  | error c => rfl
  | ok r =>
    show gEnts n r = moreE n [] r
    cases h : gEnts n r with
    | error c => exact (bindP_err h).symm
    | ok p => obtain ⟨x, q⟩ := p; rw [moreE, bindP_ok h]; rfl
theorem moreE_end (es : List Ent) (st : St) : thru (moreE 0 es) st = tag es st := by
  cases st with
  | error c => rfl
  | ok r => simp [moreE, thru, tag, gEnts, bindP, retP]
theorem moreE_text {k c : Nat} {es : List Ent} {r : List UInt8} (h : gText 128 r = .error c) : thru (moreE (k + 1) es) (.ok r) = .error c := by
  show moreE (k + 1) es r = _
  have e : gEnts (k + 1) r = .error c := bindP_err h
  exact bindP_err e
theorem moreE_ent {k : Nat} {es : List Ent} {r x q : List UInt8} (h : gText 128 r = .ok (x, q)) (hx : (getR x).2 ≠ 0) : thru (moreE (k + 1) es) (.ok r) = .error (getR x).2 := by
  show moreE (k + 1) es r = _
  have e : gEnts (k + 1) r = .error (getR x).2 := by rw [gEnts, bindP_ok h, if_neg hx]; rfl
  exact bindP_err e
theorem moreE_next {k : Nat} {es : List Ent} {r x q : List UInt8} (h : gText 128 r = .ok (x, q)) (hx : (getR x).2 = 0) : thru (moreE (k + 1) es) (.ok r) = thru (moreE k (es ++ [(getR x).1])) (.ok q) := by
  show moreE (k + 1) es r = moreE k (es ++ [(getR x).1]) q
  have e : gEnts (k + 1) r = bindP (gEnts k) (fun es => retP ((getR x).1 :: es)) q := by rw [gEnts, bindP_ok h, if_pos hx]
  cases h2 : gEnts k q with
  | error c =>
    have e2 : gEnts (k + 1) r = .error c := e.trans (bindP_err h2)
    rw [moreE, moreE, bindP_err e2, bindP_err h2]
  | ok p =>
    obtain ⟨y, z⟩ := p
    have e2 : gEnts (k + 1) r = .ok ((getR x).1 :: y, z) := by rw [e, bindP_ok h2]; rfl
    rw [moreE, moreE, bindP_ok e2, bindP_ok h2]
    simp [retP]
end Go.Proofs.Ytidapdooiibfnaa.MsgMath

/- Layer 18's reference: a taker of numbers, with the first fault kept. -/
namespace Go.Proofs.Ytidapdooiibfnaa
set_option maxRecDepth 20000
open Go.RowKit BinMath CmdMath
open MsgMath (Mg St codeS thru tag gRange gYes)

/-- A taker at T over the reader at Q. -/
structure TkAt (w : World) (T Q G : Nat) (a : Option Addr) (cap : Nat) (l : List UInt8) (st : St) : Prop where
  tb : Blk w T 67 #[.pointer (some ⟨Q, 0, none⟩), .int .i64 (codeS st : Int)]
  rd : ∀ r, st = .ok r → RAt w Q G a cap l r
  er : ∀ c, st = .error c → 2 ≤ c ∧ c ≤ 5
  ql : Q < w.heap.size
  gq : G ≤ Q
  qt : Q < T

theorem TkAt.tl {w : World} {T Q G : Nat} {a : Option Addr} {cap : Nat} {l : List UInt8} {st : St} (h : TkAt w T Q G a cap l st) : T < w.heap.size := h.tb.lt
theorem TkAt.only {w w' : World} {T Q G : Nat} {a : Option Addr} {cap : Nat} {l : List UInt8} {st : St} {S : Nat → Prop} (h : TkAt w T Q G a cap l st) (ho : OnlyS S w w') (hS : ∀ k, k < G → ¬ S k) (hQ : ¬ S Q) (hT : ¬ S T) : TkAt w' T Q G a cap l st :=
  ⟨h.tb.onlyS ho hT, fun r hr => (h.rd r hr).only ho hS hQ, h.er, Nat.lt_of_lt_of_le h.ql ho.size, h.gq, h.qt⟩
theorem TkAt.below {w w' : World} {T Q G : Nat} {a : Option Addr} {cap : Nat} {l : List UInt8} {st : St} (h : TkAt w T Q G a cap l st) (hb : Below w.heap.size w w') : TkAt w' T Q G a cap l st :=
  ⟨h.tb.keep hb, fun r hr => (h.rd r hr).below hb, h.er, Nat.lt_of_lt_of_le h.ql hb.size, h.gq, h.qt⟩
/-- The reader has read on, or has failed; the taker's fault is written. -/
theorem TkAt.put {w w1 w2 : World} {T Q G : Nat} {a : Option Addr} {cap : Nat} {l : List UInt8} {st st' : St} (h : TkAt w T Q G a cap l st) (ho : Only Q w w1) (hr : ∀ r, st' = .ok r → RAt w1 Q G a cap l r) (he : ∀ c, st' = .error c → 2 ≤ c ∧ c ≤ 5)
    (hb : Blk w2 T 67 #[.pointer (some ⟨Q, 0, none⟩), .int .i64 (codeS st' : Int)]) (ho2 : OnlyS (fun k => k = T) w1 w2) : TkAt w2 T Q G a cap l st' ∧ OnlyS (fun k => k = T ∨ k = Q) w w2 := by
  have h1 := h.gq; have h2 := h.qt
  refine ⟨⟨hb, fun r e => (hr r e).only ho2 (fun b hb e => by omega) (by intro e; omega), he, Nat.lt_of_lt_of_le h.ql (Nat.le_trans ho.size ho2.size), h1, h2⟩, ?_⟩
  exact (OnlyS.of_only ho (.inr rfl)).trans (ho2.mono fun k _ e => .inl e)

/-- How a taker's reading ends. -/
def TkEnd (α : Type) (enc : α → Value) (ok : α → Prop) (p : MsgMath.Rd α) (T Q G : Nat) (a : Option Addr) (cap : Nat) (l : List UInt8) (st : St) (w : World) (e : Ending) (w' : World) : Prop :=
  ∃ (n : α) (st' : St), e = .returned (enc n) ∧ ok n ∧ thru p st = tag n st' ∧ TkAt w' T Q G a cap l st' ∧ OnlyS (fun k => k = T ∨ k = Q) w w'

abbrev TkNum (lo hi T Q G : Nat) (a : Option Addr) (cap : Nat) (l : List UInt8) (st : St) (w : World) (e : Ending) (w' : World) : Prop := TkEnd Nat (fun n => .int .u64 (n : Int)) (fun n => n < 18446744073709551616) (gRange lo hi) T Q G a cap l st w e w'
abbrev TkYes (T Q G : Nat) (a : Option Addr) (cap : Nat) (l : List UInt8) (st : St) (w : World) (e : Ending) (w' : World) : Prop := TkEnd Bool .bool (fun _ => True) gYes T Q G a cap l st w e w'

set_option maxHeartbeats 2000000 in
theorem tknum_any {T Q G : Nat} {a : Option Addr} {cap : Nat} {l : List UInt8} {st : St} {w : World} (lo hi : Nat) (_ : lo < 18446744073709551616) (_ : hi < 18446744073709551616) (h : TkAt w T Q G a cap l st) :
    Calls Try.prog 35 #[.pointer (some ⟨T, 0, none⟩), .int .u64 (lo : Int), .int .u64 (hi : Int)] w (TkNum lo hi T Q G a cap l st w) := by
  have HH := Lib.hid h
  cases st with
  | error c =>
    have hc := h.er c rfl
    have c1 : w.cell? ⟨T, 1, none⟩ = some (.int .i64 (c : Int)) := by rw [h.tb.cell]; rfl
    have hne : ((c : Int) != 0) = true := by simp; omega
    clear h
    go_enter Try.func35, Try.ntmps35
    go_wp2
    go_ret
    exact ⟨0, .error c, rfl, by decide, rfl, HH.out, OnlyS.refl _ _⟩
  | ok r =>
    have c0 : w.cell? ⟨T, 0, none⟩ = some (.pointer (some ⟨Q, 0, none⟩)) := by rw [h.tb.cell]; rfl
    have c1 : w.cell? ⟨T, 1, none⟩ = some (.int .i64 0) := by rw [h.tb.cell]; rfl
    have hne : ((0 : Int) != 0) = false := rfl
    have hqt := h.qt
    cases hg : gNum r with
    | error c =>
      have HN := Lib.hid (refreadNum_bad (h.rd r rfl) hg)
      have hc := gNum_err hg
      have hz : ((c : Int) == 0) = false := by simp; omega
      have HE := Lib.hid (show thru (gRange lo hi) (.ok r : St) = tag 0 (.error c) from MsgMath.gRange_bad hg)
      have HCB := Lib.hid hc
      clear h hg hc
      go_enter Try.func35, Try.ntmps35
      go_wp2_with fail
      refine HN.out.mono ?_
      rintro e w2 ⟨rfl, ho⟩
      have HO := Lib.hid ho
      have HT2 := Lib.hid (HH.out.tb.onlyR ho (by omega))
      clear ho HN c0 c1
      go_wp2_with (refine wpList_store_fld rfl 30 (.tmp 37) (.tmp 35) rfl T 1 (.int .i64 (c : Int)) rfl rfl _ #[.pointer (some ⟨Q, 0, none⟩), .int .i64 0] #[.pointer (some ⟨Q, 0, none⟩), .int .i64 (c : Int)] HT2.out (by simp) rfl (by kernel_rfl) rfl ?_; intro w3 hb3 ho3; (have HB3 := Lib.hid hb3); (have HO3 := Lib.hid ho3); clear hb3 ho3)
      go_ret
      have hp := HH.out.put (st' := .error c) HO.out (fun r e => by cases e) (fun d e => by cases e; have := HCB.out; omega) HB3.out HO3.out
      exact ⟨0, .error c, rfl, by decide, HE.out, hp.1, hp.2⟩
    | ok x =>
      obtain ⟨n, q⟩ := x
      have HN := Lib.hid (refreadNum_ok (h.rd r rfl) hg)
      have hn64 := MsgMath.gNum_lt hg
      have hz : ((0 : Int) == 0) = true := rfl
      by_cases hin : lo ≤ n ∧ n ≤ hi
      · have HE := Lib.hid (show thru (gRange lo hi) (.ok r : St) = tag n (.ok q) from MsgMath.gRange_in hg hin.1 hin.2)
        have h1 : ¬ (n : Int) < (lo : Int) := by omega
        have h2 : ¬ (n : Int) > (hi : Int) := by omega
        have d1 : decide ((n : Int) < (lo : Int)) = false := decide_eq_false h1
        have d2 : decide ((n : Int) > (hi : Int)) = false := decide_eq_false h2
        have d3 : decide ((hi : Int) < (n : Int)) = false := decide_eq_false h2
        clear h hg hin
        go_enter Try.func35, Try.ntmps35
        go_wp2_with fail
        refine HN.out.mono ?_
        rintro e w2 ⟨rfl, hr2, ho⟩
        have HO := Lib.hid ho
        have HR2 := Lib.hid hr2
        have HT2 := Lib.hid (HH.out.tb.onlyR ho (by omega))
        clear ho hr2 HN c0 c1
        go_wp2_with (refine wpList_store_fld rfl 30 (.tmp 37) (.tmp 35) rfl T 1 (.int .i64 0) rfl rfl _ #[.pointer (some ⟨Q, 0, none⟩), .int .i64 0] #[.pointer (some ⟨Q, 0, none⟩), .int .i64 0] HT2.out (by simp) rfl (by kernel_rfl) rfl ?_; intro w3 hb3 ho3; (have HB3 := Lib.hid hb3); (have HO3 := Lib.hid ho3); clear hb3 ho3)
        go_ret
        have hp := HH.out.put (st' := .ok q) HO.out (fun r e => by cases e; exact HR2.out) (fun d e => by cases e) HB3.out HO3.out
        exact ⟨n, .ok q, rfl, hn64, HE.out, hp.1, hp.2⟩
      · have HE := Lib.hid (show thru (gRange lo hi) (.ok r : St) = tag n (.error 3) from MsgMath.gRange_out hg hin)
        by_cases h1 : n < lo
        · have d1 : decide ((n : Int) < (lo : Int)) = true := decide_eq_true (by omega)
          clear h hg hin
          go_enter Try.func35, Try.ntmps35
          go_wp2_with fail
          refine HN.out.mono ?_
          rintro e w2 ⟨rfl, hr2, ho⟩
          have HO := Lib.hid ho
          have HT2 := Lib.hid (HH.out.tb.onlyR ho (by omega))
          clear ho hr2 HN c0 c1
          go_wp2_with (refine wpList_store_fld rfl 30 (.tmp 37) (.tmp 35) rfl T 1 (.int .i64 3) rfl rfl _ #[.pointer (some ⟨Q, 0, none⟩), .int .i64 0] #[.pointer (some ⟨Q, 0, none⟩), .int .i64 3] HT2.out (by simp) rfl (by kernel_rfl) rfl ?_; intro w3 hb3 ho3; (have HB3 := Lib.hid hb3); (have HO3 := Lib.hid ho3); clear hb3 ho3)
          go_ret
          have hp := HH.out.put (st' := .error 3) HO.out (fun r e => by cases e) (fun d e => by cases e; omega) HB3.out HO3.out
          exact ⟨n, .error 3, rfl, hn64, HE.out, hp.1, hp.2⟩
        · have h2 : hi < n := by omega
          have d1 : decide ((n : Int) < (lo : Int)) = false := decide_eq_false (by omega)
          have d2 : decide ((n : Int) > (hi : Int)) = true := decide_eq_true (by omega)
          have d3 : decide ((hi : Int) < (n : Int)) = true := decide_eq_true (by omega)
          clear h hg hin
          go_enter Try.func35, Try.ntmps35
          go_wp2_with fail
          refine HN.out.mono ?_
          rintro e w2 ⟨rfl, hr2, ho⟩
          have HO := Lib.hid ho
          have HT2 := Lib.hid (HH.out.tb.onlyR ho (by omega))
          clear ho hr2 HN c0 c1
          go_wp2_with (refine wpList_store_fld rfl 30 (.tmp 37) (.tmp 35) rfl T 1 (.int .i64 3) rfl rfl _ #[.pointer (some ⟨Q, 0, none⟩), .int .i64 0] #[.pointer (some ⟨Q, 0, none⟩), .int .i64 3] HT2.out (by simp) rfl (by kernel_rfl) rfl ?_; intro w3 hb3 ho3; (have HB3 := Lib.hid hb3); (have HO3 := Lib.hid ho3); clear hb3 ho3)
          go_ret
          have hp := HH.out.put (st' := .error 3) HO.out (fun r e => by cases e) (fun d e => by cases e; omega) HB3.out HO3.out
          exact ⟨n, .error 3, rfl, hn64, HE.out, hp.1, hp.2⟩

set_option maxHeartbeats 2000000 in
theorem tkyes_any {T Q G : Nat} {a : Option Addr} {cap : Nat} {l : List UInt8} {st : St} {w : World} (h : TkAt w T Q G a cap l st) :
    Calls Try.prog 36 #[.pointer (some ⟨T, 0, none⟩)] w (TkYes T Q G a cap l st w) := by
  have HH := Lib.hid h
  cases st with
  | error c =>
    have hc := h.er c rfl
    have c1 : w.cell? ⟨T, 1, none⟩ = some (.int .i64 (c : Int)) := by rw [h.tb.cell]; rfl
    have hne : ((c : Int) != 0) = true := by simp; omega
    clear h
    go_enter Try.func36, Try.ntmps36
    go_wp2
    go_ret
    exact ⟨false, .error c, rfl, trivial, rfl, HH.out, OnlyS.refl _ _⟩
  | ok r =>
    have c0 : w.cell? ⟨T, 0, none⟩ = some (.pointer (some ⟨Q, 0, none⟩)) := by rw [h.tb.cell]; rfl
    have c1 : w.cell? ⟨T, 1, none⟩ = some (.int .i64 0) := by rw [h.tb.cell]; rfl
    have hne : ((0 : Int) != 0) = false := rfl
    have hqt := h.qt
    cases hg : gByte r with
    | error c =>
      have HN := Lib.hid (refreadByte_bad (h.rd r rfl) hg)
      have hc := MsgMath.gByte_err hg
      have hz : ((c : Int) == 0) = false := by simp; omega
      have HE := Lib.hid (show thru gYes (.ok r : St) = tag false (.error c) from MsgMath.gYes_bad hg)
      have HCB := Lib.hid hc
      clear h hg hc
      go_enter Try.func36, Try.ntmps36
      go_wp2_with fail
      refine HN.out.mono ?_
      rintro e w2 ⟨rfl, ho⟩
      have HO := Lib.hid ho
      have HT2 := Lib.hid (HH.out.tb.onlyR ho (by omega))
      clear ho HN c0 c1
      go_wp2_with (refine wpList_store_fld rfl 30 (.tmp 27) (.tmp 25) rfl T 1 (.int .i64 (c : Int)) rfl rfl _ #[.pointer (some ⟨Q, 0, none⟩), .int .i64 0] #[.pointer (some ⟨Q, 0, none⟩), .int .i64 (c : Int)] HT2.out (by simp) rfl (by kernel_rfl) rfl ?_; intro w3 hb3 ho3; (have HB3 := Lib.hid hb3); (have HO3 := Lib.hid ho3); clear hb3 ho3)
      go_ret
      have hp := HH.out.put (st' := .error c) HO.out (fun r e => by cases e) (fun d e => by cases e; have := HCB.out; omega) HB3.out HO3.out
      exact ⟨false, .error c, rfl, trivial, HE.out, hp.1, hp.2⟩
    | ok x =>
      obtain ⟨n, q⟩ := x
      have HN := Lib.hid (refreadByte_ok (h.rd r rfl) hg)
      have hz : ((0 : Int) == 0) = true := rfl
      have hn256 := (gByte_back hg).1
      by_cases hin : n ≤ 1
      · have HE := Lib.hid (show thru gYes (.ok r : St) = tag (decide (n = 1)) (.ok q) from MsgMath.gYes_in hg hin)
        have d1 : decide ((n : Int) > 1) = false := decide_eq_false (by omega)
        have d3 : decide ((1 : Int) < (n : Int)) = false := decide_eq_false (by omega)
        have hv : ((n : Int) == 1) = decide (n = 1) := by
          by_cases h1 : n = 1
          · subst h1; rfl
          · rw [decide_eq_false h1]; simp; omega
        have HV := Lib.hid hv
        clear h hg hin hv
        go_enter Try.func36, Try.ntmps36
        go_wp2_with fail
        refine HN.out.mono ?_
        rintro e w2 ⟨rfl, hr2, ho⟩
        have HO := Lib.hid ho
        have HR2 := Lib.hid hr2
        have HT2 := Lib.hid (HH.out.tb.onlyR ho (by omega))
        clear ho hr2 HN c0 c1
        go_wp2_with (refine wpList_store_fld rfl 30 (.tmp 27) (.tmp 25) rfl T 1 (.int .i64 0) rfl rfl _ #[.pointer (some ⟨Q, 0, none⟩), .int .i64 0] #[.pointer (some ⟨Q, 0, none⟩), .int .i64 0] HT2.out (by simp) rfl (by kernel_rfl) rfl ?_; intro w3 hb3 ho3; (have HB3 := Lib.hid hb3); (have HO3 := Lib.hid ho3); clear hb3 ho3)
        go_ret
        have hp := HH.out.put (st' := .ok q) HO.out (fun r e => by cases e; exact HR2.out) (fun d e => by cases e) HB3.out HO3.out
        exact ⟨decide (n = 1), .ok q, by rw [← HV.out]; rfl, trivial, HE.out, hp.1, hp.2⟩
      · have HE := Lib.hid (show thru gYes (.ok r : St) = tag ((n : Int) == 1) (.error 3) from MsgMath.gYes_out hg hin)
        have d1 : decide ((n : Int) > 1) = true := decide_eq_true (by omega)
        have d3 : decide ((1 : Int) < (n : Int)) = true := decide_eq_true (by omega)
        clear h hg hin
        go_enter Try.func36, Try.ntmps36
        go_wp2_with fail
        refine HN.out.mono ?_
        rintro e w2 ⟨rfl, hr2, ho⟩
        have HO := Lib.hid ho
        have HT2 := Lib.hid (HH.out.tb.onlyR ho (by omega))
        clear ho hr2 HN c0 c1
        go_wp2_with (refine wpList_store_fld rfl 30 (.tmp 27) (.tmp 25) rfl T 1 (.int .i64 3) rfl rfl _ #[.pointer (some ⟨Q, 0, none⟩), .int .i64 0] #[.pointer (some ⟨Q, 0, none⟩), .int .i64 3] HT2.out (by simp) rfl (by kernel_rfl) rfl ?_; intro w3 hb3 ho3; (have HB3 := Lib.hid hb3); (have HO3 := Lib.hid ho3); clear hb3 ho3)
        go_ret
        have hp := HH.out.put (st' := .error 3) HO.out (fun r e => by cases e) (fun d e => by cases e; omega) HB3.out HO3.out
        exact ⟨(n : Int) == 1, .error 3, rfl, trivial, HE.out, hp.1, hp.2⟩
end Go.Proofs.Ytidapdooiibfnaa

/- Layer 18: a message of the call's own memory; a list of entries that grows. -/
namespace Go.Proofs.Ytidapdooiibfnaa
set_option maxRecDepth 20000
open Go.RowKit Go.Maps BinMath CmdMath
open MsgMath (Mg)

/-- A list of entries of the call's own, from block B on. -/
def ERow (w : World) (B : Nat) (v : Value) (us : List EE) : Prop := w.ownsRow B 42 6 v us.length (us.flatMap EE.cells)
/-- Their slices, too. -/
def EMine (w : World) (B : Nat) (us : List EE) : Prop := ∀ u ∈ us, Mine w B u.e u.a u.ca u.b u.cb

theorem ERow.nil (w : World) (B : Nat) : ERow w B (.slice none 0 0) [] := World.ownsRow_nil _ _ _ _
theorem ERow.form {w : World} {B : Nat} {v : Value} {us : List EE} (h : ERow w B v us) : ∃ a c, v = .slice a us.length c := by
  rcases h.2 with ⟨rfl, h1⟩ | ⟨g, cap, cur, rfl, -⟩
  · exact ⟨_, _, by rw [h1]⟩
  · exact ⟨_, _, rfl⟩
theorem ERow.els {w : World} {B : Nat} {v : Value} {us : List EE} (h : ERow w B v us) : Els w v us := by
  rcases h.2 with ⟨rfl, h1⟩ | ⟨g, cap, cur, rfl, hB, hg, hn, hm, hs, ht⟩
  · exact .inl ⟨rfl, List.eq_nil_of_length_eq_zero h1⟩
  · refine .inr ⟨⟨g, 0, none⟩, cap, rfl, hn, fun j u hj => ?_⟩
    rw [addr_add, Nat.zero_add, Blk.cell (show Blk w g 42 cur from hg), ← Array.getElem?_toList]
    have hlt := (List.getElem?_eq_some_iff.1 hj).1
    rw [← ht, List.getElem?_take] at hj
    split at hj
    · exact hj
    · cases hj
theorem ERow.to {w w' : World} {B : Nat} {v : Value} {us : List EE} (h : ERow w B v us) (hk : ∀ k, B ≤ k → k < w.heap.size → w'.heap[k]? = w.heap[k]?) : ERow w' B v us :=
  ownsRow_to h fun k e => hk k (World.ownsRow.lt h k e).1 (World.ownsRow.lt h k e).2
theorem EMine.to {w w' : World} {B : Nat} {us : List EE} (h : EMine w B us) (hk : ∀ k, B ≤ k → k < w.heap.size → w'.heap[k]? = w.heap[k]?) : EMine w' B us := fun u hu => by
  have h1 := h u hu
  exact ⟨h1.ok, row_to h1.d fun k e => hk k (World.ownsRow.lt h1.d k e).1 (World.ownsRow.lt h1.d k e).2, h1.m.to fun k e => hk k (World.ownsRow.lt h1.m k e).1 (World.ownsRow.lt h1.m k e).2, h1.dl, h1.ml⟩
theorem ERow.low {w : World} {B B' : Nat} {v : Value} {us : List EE} (h : ERow w B v us) (hB : B' ≤ B) : ERow w B' v us := by
  obtain ⟨h1, h2⟩ := h
  exact ⟨h1, h2.elim .inl fun ⟨g, cap, cur, hv, hb, r⟩ => .inr ⟨g, cap, cur, hv, Nat.le_trans hB hb, r⟩⟩
theorem EMine.low {w : World} {B B' : Nat} {us : List EE} (h : EMine w B us) (hB : B' ≤ B) : EMine w B' us := fun u hu => (h u hu).low hB

theorem info_ent6 : (Try.prog.info? 42).map (fun i => (i.zero, i.size, i.bytes)) = some (some (.agg zeroC), 6, 80) := by kernel_rfl

/-- append(v, one), v the call's own. -/
theorem append_ent {w : World} {B : Nat} {v : Value} {us : List EE} (hB : B ≤ w.heap.size) (h : ERow w B v us) (hl : us.length ≤ 1000) (u : EE) (g : Nat) (hg : Blk w g 42 (entC u.e u.a u.ca u.b u.cb)) :
    ∃ v' w', (Builtin.append_ #[23, 23] 23 #[v, .slice (some ⟨g, 0, none⟩) 1 1]).run Try.prog w = .ok v' w' ∧ ERow w' B v' (us ++ [u]) ∧ w.grownBy w' v.ownBlock := by
  obtain ⟨i0, hi, hz0, hz1, hz2⟩ := info_parts info_ent6
  obtain ⟨v', w', hr, h1, h2, -⟩ := run_append_own (P := Try.prog) w B 23 23 42 i0 (.agg zeroC) 6 80 Try.underlying23 hi hz0 hz1 hz2 rfl (by decide) v us.length (us.flatMap EE.cells) h ⟨g, 0, none⟩ 1 1 u.cells rfl
    (fun j x hj => by rw [addr_add, Nat.zero_add, hg.cell]; simpa [EE.cells] using hj) (fun x hx => cells_one [u] x (by simpa using hx)) (by unfold maxLen; omega) (by omega) hB
  refine ⟨v', w', hr, ?_, h2⟩
  unfold ERow
  rw [List.length_append, List.flatMap_append]
  simpa using h1

/-- A message of the call's own memory. -/
structure MOwn (w : World) (B : Nat) (m : Mg) (ve vm vg : Value) (us : List EE) : Prop where
  ok : m.Ok
  els : ERow w B ve us
  all : EMine w B us
  ents : us.map EE.e = m.e
  ms : NRow w B vm m.m
  gs : Row w B vg m.g
  ul : us.length ≤ 1000
  ml : m.m.length ≤ 7
  gl : m.g.length ≤ 16384

theorem MOwn.has {w : World} {B : Nat} {m : Mg} {ve vm vg : Value} {us : List EE} (h : MOwn w B m ve vm vg us) : MHas w m ve vm vg us :=
  ⟨h.ok, h.els.els, fun u hu => (h.all u hu).has, h.ents, h.ms.nums, h.gs.bys, by have := h.ul; omega, by have := h.ml; omega, by have := h.gl; omega⟩
theorem MOwn.to {w w' : World} {B : Nat} {m : Mg} {ve vm vg : Value} {us : List EE} (h : MOwn w B m ve vm vg us) (hk : ∀ k, B ≤ k → k < w.heap.size → w'.heap[k]? = w.heap[k]?) : MOwn w' B m ve vm vg us :=
  ⟨h.ok, h.els.to hk, h.all.to hk, h.ents, h.ms.to fun k e => hk k (World.ownsRow.lt h.ms k e).1 (World.ownsRow.lt h.ms k e).2, row_to h.gs fun k e => hk k (World.ownsRow.lt h.gs k e).1 (World.ownsRow.lt h.gs k e).2, h.ul, h.ml, h.gl⟩
theorem MOwn.below {w w' : World} {B : Nat} {m : Mg} {ve vm vg : Value} {us : List EE} (h : MOwn w B m ve vm vg us) (hb : Below w.heap.size w w') : MOwn w' B m ve vm vg us := h.to fun k _ hk => hb.block k hk
theorem MOwn.low {w : World} {B B' : Nat} {m : Mg} {ve vm vg : Value} {us : List EE} (h : MOwn w B m ve vm vg us) (hB : B' ≤ B) : MOwn w B' m ve vm vg us :=
  ⟨h.ok, h.els.low hB, h.all.low hB, h.ents, nrow_low h.ms hB, row_low h.gs hB, h.ul, h.ml, h.gl⟩
theorem MOwn.zero (w : World) (B : Nat) : MOwn w B Mg.zero (.slice none 0 0) (.slice none 0 0) (.slice none 0 0) [] :=
  ⟨MsgMath.Mg.Ok.zero, ERow.nil _ _, fun u hu => absurd hu List.not_mem_nil, rfl, World.ownsRow_nil _ _ _ _, World.ownsRow_nil _ _ _ _, by simp, by simp [Mg.zero], by simp [Mg.zero]⟩
end Go.Proofs.Ytidapdooiibfnaa

/- Layer 18's reference: what Get has in memory while it reads. -/
namespace Go.Proofs.Ytidapdooiibfnaa
set_option maxRecDepth 20000
open Go.RowKit BinMath CmdMath Reg
open MsgMath (Mg St codeS thru tag gRange gYes getM gMsg)

/-- In the midst of Get: the taker at T over the reader at Q, the result's block R, the message's block M. -/
structure GAt (w : World) (R Q T Z : Nat) (a : Option Addr) (cap : Nat) (l : List UInt8) (st : St) (cs : Array Value) (W : World) : Prop where
  tk : TkAt W T Q w.heap.size a cap l st
  br : Blk W R 27 zeroM
  bz : Blk W Z 27 cs
  bl : Below w.heap.size w W
  rl : w.heap.size ≤ R
  rq : R < Q
  tz : T < Z

theorem GAt.call {w W W' : World} {R Q T Z : Nat} {a : Option Addr} {cap : Nat} {l : List UInt8} {st st' : St} {cs : Array Value} (h : GAt w R Q T Z a cap l st cs W) (ht : TkAt W' T Q w.heap.size a cap l st') (ho : OnlyS (fun k => k = T ∨ k = Q) W W') : GAt w R Q T Z a cap l st' cs W' := by
  have h1 := h.rl; have h2 := h.rq; have h3 := h.tz; have h4 := h.tk.qt; have h5 := h.tk.gq
  exact ⟨ht, h.br.onlyS ho (by omega), h.bz.onlyS ho (by omega), h.bl.trans (ho.below (fun k hk e => by rcases e with e | e <;> omega) h.bl.size), h1, h2, h3⟩
theorem GAt.set {w W W' : World} {R Q T Z : Nat} {a : Option Addr} {cap : Nat} {l : List UInt8} {st : St} {cs cs' : Array Value} (h : GAt w R Q T Z a cap l st cs W) (hb : Blk W' Z 27 cs') (ho : OnlyS (fun k => k = Z) W W') : GAt w R Q T Z a cap l st cs' W' := by
  have h1 := h.rl; have h2 := h.rq; have h3 := h.tz; have h4 := h.tk.qt; have h5 := h.tk.gq
  exact ⟨h.tk.only ho (fun k hk e => by omega) (by omega) (by omega), h.br.onlyS ho (by omega), hb, h.bl.trans (ho.below (fun k hk e => by omega) h.bl.size), h1, h2, h3⟩
/-- The taker's fault is written. -/
theorem GAt.code {w W W' : World} {R Q T Z : Nat} {a : Option Addr} {cap : Nat} {l : List UInt8} {st st' : St} {cs : Array Value} (h : GAt w R Q T Z a cap l st cs W) (hr : ∀ r, st' = .ok r → RAt W Q w.heap.size a cap l r) (he : ∀ c, st' = .error c → 2 ≤ c ∧ c ≤ 5)
    (hb : Blk W' T 67 #[.pointer (some ⟨Q, 0, none⟩), .int .i64 (codeS st' : Int)]) (ho : OnlyS (fun k => k = T) W W') : GAt w R Q T Z a cap l st' cs W' :=
  h.call (h.tk.put (Only.refl Q W) hr he hb ho).1 (ho.mono fun _ _ e => .inl e)
theorem GAt.below {w W W' : World} {R Q T Z : Nat} {a : Option Addr} {cap : Nat} {l : List UInt8} {st : St} {cs : Array Value} (h : GAt w R Q T Z a cap l st cs W) (hb : Below W.heap.size W W') : GAt w R Q T Z a cap l st cs W' :=
  ⟨h.tk.below hb, h.br.keep hb, h.bz.keep hb, h.bl.trans (hb.mono h.bl.size), h.rl, h.rq, h.tz⟩

/-- How Get ends. -/
def MGetEnd (l : List UInt8) (w : World) (e : Ending) (w' : World) : Prop :=
  ∃ ve vm vg us, e = .returned (.tuple #[.agg (mgC (getM l).1 ve vm vg), .int .i64 ((getM l).2 : Int)]) ∧ MOwn w' w.heap.size (getM l).1 ve vm vg us ∧ Below w.heap.size w w'

theorem mGetEnd_err {l : List UInt8} {c : Nat} {w w' : World} (h : getM l = (Mg.zero, c)) (hb : Below w.heap.size w w') : MGetEnd l w (.returned (.tuple #[.agg zeroM, .int .i64 (c : Int)])) w' := by
  unfold MGetEnd
  rw [h]
  exact ⟨_, _, _, [], rfl, MOwn.zero _ _, hb⟩

theorem ret_msg {fn : Func} {p u : Tmp} (h : fn.results = #[.cell p 27, .tmp u]) (tmps : Array Value) (W : World) (g : Nat) (cs : Array Value) (c : Value) (hs : cs.size = 12) (hp : tmps.getD p undef = .pointer (some ⟨g, 0, none⟩)) (hc : tmps.getD u undef = c) (hb : Blk W g 27 cs) :
    (results fn tmps).run Try.prog W = .ok (.tuple #[.agg cs, c]) W := by
  have h6 : (Try.prog.info? 27).map (·.size) = some 12 := by kernel_rfl
  have hl := run_loadVar_row (P := Try.prog) W g 27 27 cs (0, 0) _ hb Try.underlying27 rfl (by rw [hs]; exact h6)
  have hp' : tmps[p]?.getD undef = .pointer (some ⟨g, 0, none⟩) := by simpa using hp
  have hc' : tmps[u]?.getD undef = c := by simpa using hc
  simp only [results, h]
  simp [Result.andThen, hp', hc', asAddr, hl]

/-- What is known of a message that was read. -/
theorem msg_read {l r : List UInt8} {m : Mg} (h : gMsg l = .ok (m, r)) : m.Ok ∧ m.e.length ≤ 4 ∧ m.m.length ≤ 7 ∧ m.g.length ≤ 16384 := by
  obtain ⟨h1, h2, -⟩ := MsgMath.gMsg_back h
  refine ⟨h1, ?_⟩
  simp only [MsgMath.formedM, MsgMath.headOk, MsgMath.restOk, MsgMath.nodeOk, termOk, Bool.and_eq_true, decide_eq_true_eq, Bool.or_eq_true, List.all_eq_true] at h2
  obtain ⟨⟨hk, -⟩, ⟨hb, -, h3, h4⟩, -, h5⟩ := h2
  refine ⟨h3, ?_, h4⟩
  by_cases h6 : m.k = 5
  · exact (memOk_len (h5.resolve_left fun h => h h6)).2
  · have h7 : (MsgMath.bareM m).m = [] := by
      unfold MsgMath.bareM
      repeat' split
      all_goals first | rfl | contradiction
    rw [hb, h7]
    simp
end Go.Proofs.Ytidapdooiibfnaa

