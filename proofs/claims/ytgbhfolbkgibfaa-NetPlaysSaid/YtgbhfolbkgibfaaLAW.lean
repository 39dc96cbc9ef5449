/- Joined: MsgSt, MsgTaker, Stores, MsgStores. -/
import Derived.Test.YtgbhfolbkgibfaaLAB
import Derived.Test.YtgbhfolbkgibfaaLAO
import Derived.Test.YtgbhfolbkgibfaaLAH
import Derived.Test.YtgbhfolbkgibfaaLAI
import Derived.Test.YtgbhfolbkgibfaaCmdEntryL
/- Layer 18: readings one behind the other, of which the first fault is kept. No program is named here. -/
namespace Go.Proofs.Ytgbhfolbkgibfaa.MsgMath
set_option maxRecDepth 20000
open BinMath CmdMath

/-- A reading under way: the first fault, or what is left. -/
abbrev St := Except Nat (List UInt8)
def codeS : St → Nat
  | .error c => c
  | .ok _ => 0
def thru {α : Type} (p : Rd α) : St → Except Nat (α × List UInt8)
  | .error c => .error c
  | .ok r => p r
def tag {α : Type} (x : α) : St → Except Nat (α × List UInt8)
  | .error c => .error c
  | .ok r => .ok (x, r)

theorem thru_bind {α β : Type} {p : Rd α} {q : α → Rd β} {st st' : St} {x : α} (h : thru p st = tag x st') : thru (bindP p q) st = thru (q x) st' := by
  cases st with
  | error c =>
    cases st' with
    | error d => simp only [thru, tag, Except.error.injEq] at h ⊢; exact h
    | ok r => cases h
  | ok r =>
    cases st' with
    | error d => exact bindP_err (show p r = .error d from h)
    | ok q' => exact bindP_ok (show p r = .ok (x, q') from h)
theorem thru_ret {α : Type} (x : α) (st : St) : thru (retP x) st = tag x st := by cases st <;> rfl
theorem thru_err {α : Type} {p : Rd α} {st : St} {c : Nat} (h : st = .error c) : thru p st = .error c := by rw [h]; rfl
theorem tag_err {α : Type} {x : α} {st : St} {c : Nat} (h : st = .error c) : tag x st = .error c := by rw [h]; rfl

theorem codeS_ok {st : St} (he : ∀ c, st = .error c → 2 ≤ c ∧ c ≤ 5) (h : codeS st = 0) : ∃ r, st = .ok r := by
  cases st with
  | error c => have := he c rfl; simp only [codeS] at h; omega
  | ok r => exact ⟨r, rfl⟩
theorem codeS_err {st : St} (h : codeS st ≠ 0) : st = .error (codeS st) := by
  cases st with
  | error c => rfl
  | ok r => exact absurd rfl h

theorem gNum_lt {r q : List UInt8} {n : Nat} (h : gNum r = .ok (n, q)) : n < 18446744073709551616 := (gNum_back h).1
/-- A number of any range. -/
theorem gRange_most : gRange 0 18446744073709551615 = gNum := by
  funext r
  cases h : gNum r with
  | error c => exact bindP_err h
  | ok p =>
    obtain ⟨n, q⟩ := p
    rw [gRange, bindP_ok h, if_pos ⟨Nat.zero_le _, by have := gNum_lt h; omega⟩]
    rfl
theorem gRange_bad {lo hi c : Nat} {r : List UInt8} (h : gNum r = .error c) : gRange lo hi r = .error c := bindP_err h
theorem gRange_in {lo hi n : Nat} {r q : List UInt8} (h : gNum r = .ok (n, q)) (h1 : lo ≤ n) (h2 : n ≤ hi) : gRange lo hi r = .ok (n, q) := by rw [gRange, bindP_ok h, if_pos ⟨h1, h2⟩]; rfl
theorem gRange_out {lo hi n : Nat} {r q : List UInt8} (h : gNum r = .ok (n, q)) (h1 : ¬ (lo ≤ n ∧ n ≤ hi)) : gRange lo hi r = .error 3 := by rw [gRange, bindP_ok h, if_neg h1]; rfl
theorem gByte_err {l : List UInt8} {c : Nat} (h : gByte l = .error c) : c = 2 := by
  cases l with
  | nil => simpa [gByte] using h.symm
  | cons x r => simp [gByte] at h
theorem gYes_bad {c : Nat} {r : List UInt8} (h : gByte r = .error c) : gYes r = .error c := bindP_err h
theorem gYes_in {n : Nat} {r q : List UInt8} (h : gByte r = .ok (n, q)) (h1 : n ≤ 1) : gYes r = .ok (decide (n = 1), q) := by rw [gYes, bindP_ok h, if_pos h1]; rfl
theorem gYes_out {n : Nat} {r q : List UInt8} (h : gByte r = .ok (n, q)) (h1 : ¬ n ≤ 1) : gYes r = .error 3 := by rw [gYes, bindP_ok h, if_neg h1]; rfl

/-- What Get answers, by its last state. -/
theorem getM_fault {l : List UInt8} {c : Nat} (h : gMsg l = .error c) : getM l = (Mg.zero, c) := by rw [getM, h]
theorem getM_done {l r : List UInt8} {m : Mg} (h : gMsg l = .ok (m, r)) : getM l = if r = [] then (m, 0) else (Mg.zero, 5) := by rw [getM, h]

/-! ### A message, reading by reading -/

theorem msg_nobyte {l : List UInt8} {c : Nat} (h : gByte l = .error c) : gMsg l = .error c := bindP_err h
theorem msg_nokind {l q : List UInt8} {k : Nat} (h : gByte l = .ok (k, q)) (hk : ¬ (1 ≤ k ∧ k ≤ 5)) : gMsg l = .error 3 := by rw [gMsg, bindP_ok h, if_neg hk]; rfl
theorem msg_head {l q : List UInt8} {k f o t : Nat} {s1 s2 s3 : St} (h : gByte l = .ok (k, q)) (hk : 1 ≤ k ∧ k ≤ 5) (h1 : thru (gRange 1 7) (.ok q) = tag f s1) (h2 : thru (gRange 1 7) s1 = tag o s2) (h3 : thru (gRange 1 MT) s2 = tag t s3) :
    gMsg l = thru (gBody k f o t) s3 := by
  have e : gMsg l = thru (bindP (gRange 1 7) fun f => bindP (gRange 1 7) fun o => bindP (gRange 1 MT) fun t => gBody k f o t) (.ok q) := by rw [gMsg, bindP_ok h, if_pos hk]; rfl
  rw [e, thru_bind h1, thru_bind h2, thru_bind h3]
theorem body_1 {f o t i l : Nat} {s3 s4 s5 : St} (h4 : thru (gRange 0 MT) s3 = tag i s4) (h5 : thru (gRange 0 MT) s4 = tag l s5) : thru (gBody 1 f o t) s3 = tag (⟨1, f, o, t, i, l, 0, 0, false, [], [], []⟩ : Mg) s5 := by
  rw [gBody, if_pos rfl, thru_bind h4, thru_bind h5, thru_ret]
theorem body_2 {f o t : Nat} {y : Bool} {s3 s4 : St} (h4 : thru gYes s3 = tag y s4) : thru (gBody 2 f o t) s3 = tag (⟨2, f, o, t, 0, 0, 0, 0, y, [], [], []⟩ : Mg) s4 := by
  rw [gBody, if_neg (by decide), if_pos rfl, thru_bind h4, thru_ret]
theorem body_4 {f o t i s : Nat} {y : Bool} {s3 s4 s5 s6 : St} (h4 : thru gYes s3 = tag y s4) (h5 : thru (gRange 0 MT) s4 = tag i s5) (h6 : thru (gRange 0 18446744073709551615) s5 = tag s s6) : thru (gBody 4 f o t) s3 = tag (⟨4, f, o, t, i, 0, 0, s, y, [], [], []⟩ : Mg) s6 := by
  rw [gRange_most] at h6
  rw [gBody, if_neg (by decide), if_neg (by decide), if_neg (by decide), if_pos rfl, thru_bind h4, thru_bind h5, thru_bind h6, thru_ret]
theorem body_5 {f o t i l s : Nat} {m : List Nat} {g : List UInt8} {s3 s4 s5 s6 s7 s8 : St} (h4 : thru (gRange 0 MT) s3 = tag i s4) (h5 : thru (gRange 0 MT) s4 = tag l s5) (h6 : thru (gRange 0 18446744073709551615) s5 = tag s s6) (h7 : thru gMem s6 = tag m s7) (h8 : thru (gText 16384) s7 = tag g s8) :
    thru (gBody 5 f o t) s3 = tag (⟨5, f, o, t, i, l, 0, s, false, [], m, g⟩ : Mg) s8 := by
  rw [gRange_most] at h6
  rw [gBody, if_neg (by decide), if_neg (by decide), if_neg (by decide), if_neg (by decide), thru_bind h4, thru_bind h5, thru_bind h6, thru_bind h7, thru_bind h8, thru_ret]
/-- The state behind the number of the entries. -/
def manyS (n : Nat) : St → St
  | .error c => .error c
  | .ok r => if n ≤ 4 then .ok r else .error 4
theorem body_3 {f o t i l c s n : Nat} {es : List Ent} {s3 s4 s5 s6 s7 s8 s9 : St} (h4 : thru (gRange 0 MT) s3 = tag i s4) (h5 : thru (gRange 0 MT) s4 = tag l s5) (h6 : thru (gRange 0 MT) s5 = tag c s6) (h7 : thru (gRange 0 18446744073709551615) s6 = tag s s7)
    (h8 : thru (gRange 0 18446744073709551615) s7 = tag n s8) (h9 : thru (gEnts n) (manyS n s8) = tag es s9) : thru (gBody 3 f o t) s3 = tag (⟨3, f, o, t, i, l, c, s, false, es, [], []⟩ : Mg) s9 := by
  rw [gRange_most] at h7 h8
  rw [gBody, if_neg (by decide), if_neg (by decide), if_pos rfl, thru_bind h4, thru_bind h5, thru_bind h6, thru_bind h7, thru_bind h8]
  cases s8 with
  | error d =>
    have e : s9 = .error d := by
      cases s9 with
      | error c => simp only [manyS, thru, tag, Except.error.injEq] at h9; rw [h9]
      | ok r => cases h9
    rw [e]
    rfl
  | ok r =>
    by_cases hn : n ≤ 4
    · rw [if_pos hn]
      simp only [manyS, if_pos hn] at h9
      rw [thru_bind h9, thru_ret]
    · rw [if_neg hn]
      simp only [manyS, if_neg hn] at h9
      have e : s9 = .error 4 := by
        cases s9 with
        | error c => simp only [thru, tag, Except.error.injEq] at h9; rw [h9]
        | ok r => cases h9
      rw [e]
      rfl

/-- The entries that are left, behind those that were read. -/
def moreE (k : Nat) (es : List Ent) : Rd (List Ent) := bindP (gEnts k) fun r => retP (es ++ r)
theorem moreE_start (n : Nat) (st : St) : thru (gEnts n) st = thru (moreE n []) st := by
  cases st with
  | error c => rfl
  | ok r =>
    show gEnts n r = moreE n [] r
    cases h : gEnts n r with
    | error c => exact (bindP_err h).symm
    | ok p => obtain ⟨x, q⟩ := p; rw [moreE, bindP_ok h]; rfl
theorem moreE_end (es : List Ent) (st : St) : thru (moreE 0 es) st = tag es st := by
  cases st with
  | error c => rfl
  | ok r => simp [moreE, thru, tag, gEnts, bindP, retP]
theorem moreE_err {k : Nat} {es : List Ent} {c : Nat} : thru (moreE k es) (.error c) = .error c := rfl
theorem moreE_text {k c : Nat} {es : List Ent} {r : List UInt8} (h : gText 128 r = .error c) : thru (moreE (k + 1) es) (.ok r) = .error c := by
  show moreE (k + 1) es r = _
  have e : gEnts (k + 1) r = .error c := bindP_err h
  exact bindP_err e
theorem moreE_ent {k : Nat} {es : List Ent} {r x q : List UInt8} (h : gText 128 r = .ok (x, q)) (hx : (getR x).2 ≠ 0) : thru (moreE (k + 1) es) (.ok r) = .error (getR x).2 := by
  show moreE (k + 1) es r = _
  have e : gEnts (k + 1) r = .error (getR x).2 := by rw [gEnts, bindP_ok h, if_neg hx]; rfl
  exact bindP_err e
theorem moreE_next {k : Nat} {es : List Ent} {r x q : List UInt8} (h : gText 128 r = .ok (x, q)) (hx : (getR x).2 = 0) : thru (moreE (k + 1) es) (.ok r) = thru (moreE k (es ++ [(getR x).1])) (.ok q) := by
  show moreE (k + 1) es r = moreE k (es ++ [(getR x).1]) q
  have e : gEnts (k + 1) r = bindP (gEnts k) (fun es => retP ((getR x).1 :: es)) q := by rw [gEnts, bindP_ok h, if_pos hx]
  cases h2 : gEnts k q with
  | error c =>
    have e2 : gEnts (k + 1) r = .error c := e.trans (bindP_err h2)
    rw [moreE, moreE, bindP_err e2, bindP_err h2]
  | ok p =>
    obtain ⟨y, z⟩ := p
    have e2 : gEnts (k + 1) r = .ok ((getR x).1 :: y, z) := by rw [e, bindP_ok h2]; rfl
    rw [moreE, moreE, bindP_ok e2, bindP_ok h2]
    simp [retP]
end Go.Proofs.Ytgbhfolbkgibfaa.MsgMath

/- Layer 18's reference: a taker of numbers, with the first fault kept. -/
namespace Go.Proofs.Ytgbhfolbkgibfaa
set_option maxRecDepth 20000
open Go.RowKit BinMath CmdMath
open MsgMath (Mg St codeS thru tag gRange gYes)

end Go.Proofs.Ytgbhfolbkgibfaa

/- A region that draws its order, told by facts, some of whose operations write memory in any place among the others: what is told of the world looks at what has come up. -/
namespace Go.Proofs.Ytgbhfolbkgibfaa.Reg
set_option maxRecDepth 20000
open Go.RowKit

/-- As asked, of what has come up, too. -/
def askedL (P : Program) (ops : Array Oper) (tab : List (List Nat)) (fin : List Tmp) (Gl : Array Bool → World → Prop) (F : Tmp → Value → World → Prop) (i : Nat) (o : Oper) : Prop :=
  ∀ (x : Tmp → Value) (W : World) (L : Array Bool), L.size = ops.size → L.getD i false = false → Gl L W → (∀ k, (o.looksAt ops).contains k = true → F k (x k) W) →
    wantedBy ops o x ∧ gives P o x W (fun v W' => Gl (L.setIfInBounds i true) W' ∧ (∀ k u, o.dst ≠ some k → live ops tab fin i k = true → F k u W → F k u W') ∧ ∀ k, o.dst = some k → F k v W')

theorem any_of_inv_l {P : Program} {ops : Array Oper} {tab : List (List Nat)} {fin : List Tmp} {Gl : Array Bool → World → Prop} {F : Tmp → Value → World → Prop} {a0 : Act} {Q : Exit → Act → World → Prop} (hs : sound ops = true) (ht : tableOk ops tab = true)
    (hd : ∀ (i : Nat) (o : Oper), ops[i]? = some o → ∀ d, o.dst = some d → d < a0.tmps.size)
    (hops : ∀ (i : Nat) (o : Oper), ops[i]? = some o → askedL P ops tab fin Gl F i o)
    (hend : ∀ (listed : Array Bool) a W, (∀ i, i < ops.size → listed.getD i false = true) → Gl listed W → a.defers = a0.defers → a.tmps.size = a0.tmps.size → (∀ k, fin.contains k = true → F k (a.tmps.getD k undef) W) → Q .normal a W) :
    ∀ (fuel : Nat) (listed : Array Bool) (a : Act) (W : World), left listed ≤ fuel → Gl listed W → Inv ops fin (fun _ => True) F a0 listed a W → wpAny P .any ops Q fuel listed a W := by
  have done : ∀ (listed : Array Bool) (a : Act) (W : World), Gl listed W → Inv ops fin (fun _ => True) F a0 listed a W → Region.ready .any ops listed = [] → Q .normal a W := fun listed a W hgl h hr =>
    hend listed a W (all_listed hs h.lsize hr) hgl h.defers h.size fun k hk => h.facts k (fun i o hi _ => all_listed hs h.lsize hr i (Array.getElem?_eq_some_iff.1 hi).1) (.inl hk)
  intro fuel
  induction fuel with
  | zero =>
    intro listed a W hf hgl h
    have hr : Region.ready .any ops listed = [] := by
      cases hq : Region.ready .any ops listed with
      | nil => rfl
      | cons j js =>
        have hj : j ∈ Region.ready .any ops listed := by rw [hq]; simp
        have := left_set (mem_ready.1 hj).1
        omega
    exact ⟨hr, done listed a W hgl h hr⟩
  | succ fuel ih =>
    intro listed a W hf hgl h
    refine ⟨fun hr => done listed a W hgl h hr, fun i hi => ?_⟩
    obtain ⟨hun, o, ho, hall⟩ := mem_ready.1 hi
    have hil : i < ops.size := (Array.getElem?_eq_some_iff.1 ho).1
    have hun' : listed.getD i false = false := by
      rw [Array.getD_eq_getD_getElem?, Array.getElem?_eq_getElem (by rw [h.lsize]; exact hil)] at hun ⊢
      exact hun
    have hsd := sound_edge hs ho
    have hp : ∀ j ∈ preds ops i, listed.getD j false = true := fun j hj => by
      obtain ⟨e, he, hb, rfl⟩ := (mem_preds ho).1 hj
      exact hall e he hb
    have hF : ∀ k, (o.looksAt ops).contains k = true → F k (a.tmps.getD k undef) W := fun k hk => h.facts k (fun j oj hj hdj => by
      obtain ⟨e, he, hb, rfl⟩ := hsd.2 k (by simpa using hk) j oj hj hdj
      exact hall e he hb) (.inr ⟨i, o, ho, hk, hun'⟩)
    obtain ⟨hw, hg⟩ := hops i o ho (fun t => a.tmps.getD t undef) W listed h.lsize hun' hgl hF
    unfold wpOp
    simp only [ho, wanted_of hw, if_true]
    refine .inl (wp_of_gives hg fun v w' ⟨h1, h2, h3⟩ => ih _ _ _ ?_ h1 (inv_step ht h ho hp (hd i o ho) trivial h2 h3))
    have := left_set hun
    omega


theorem wp_region_l {P : Program} {ops : Array Oper} {id : Nat} {a : Act} {w : World} {Q : Exit → Act → World → Prop} (tab : List (List Nat)) (fin : List Tmp) (Gl : Array Bool → World → Prop) (F : Tmp → Value → World → Prop)
    (hm : P.follows .mixedOrders = true) (hs : sound ops = true) (ht : tableOk ops tab = true) (hd : (ops.all fun o => (o.dst.map fun d => decide (d < a.tmps.size)).getD true) = true)
    (hG : Gl (Array.replicate ops.size false) w.drew) (h0 : ∀ k, F k (a.tmps.getD k undef) w.drew ∨ (ops.any fun o => o.dst == some k) = true)
    (hops : ∀ (i : Nat) (o : Oper), ops[i]? = some o → askedL P ops tab fin Gl F i o)
    (hend : ∀ (listed : Array Bool) a' W, (∀ i, i < ops.size → listed.getD i false = true) → Gl listed W → a'.defers = a.defers → a'.tmps.size = a.tmps.size → (∀ k, fin.contains k = true → F k (a'.tmps.getD k undef) W) → Q .normal a' W) : (Code.region id ops true).wp P Q a w := by
  refine wp_region_any hm (any_of_inv_l (tab := tab) (fin := fin) (Gl := Gl) (F := F) (a0 := a) hs ht ?_ hops hend _ _ _ _ ?_ hG ?_)
  · intro i o hi d hdst
    have := Array.all_eq_true_iff_forall_mem.1 hd o (Array.mem_of_getElem? hi)
    simpa [hdst] using this
  · unfold left
    refine Nat.le_trans (List.length_filter_le _ _) (by simp)
  · refine ⟨trivial, rfl, rfl, by simp, fun i o hi hl => ?_, fun k hk _ => ?_⟩
    · rw [Array.getD_eq_getD_getElem?] at hl
      simp [Array.getElem?_replicate] at hl
      split at hl <;> simp at hl
    · rcases h0 k with h | h
      · exact h
      · obtain ⟨o, ho, hdst⟩ := Array.any_eq_true'.1 h
        obtain ⟨i, hi⟩ := Array.mem_iff_getElem?.1 ho
        have := hk i o hi (by simpa using hdst)
        rw [Array.getD_eq_getD_getElem?] at this
        simp [Array.getElem?_replicate] at this
        split at this <;> simp at this
section
variable {P : Program} {ops : Array Oper} {tab : List (List Nat)} {fin : List Tmp} {f : Tmp → Fact} {i : Nat} {o : Oper}

def AskedAllL (P : Program) (ops : Array Oper) (tab : List (List Nat)) (fin : List Tmp) (Gl : Array Bool → World → Prop) (f : Tmp → Fact) : Nat → List Oper → Prop
  | _, [] => True
  | i, o :: r => askedL P ops tab fin Gl (fun k v W => (f k).holds v W) i o ∧ AskedAllL P ops tab fin Gl f (i + 1) r

theorem asked_of_all_l {Gl : Array Bool → World → Prop} : ∀ (l : List Oper) (n : Nat), AskedAllL P ops tab fin Gl f n l → ∀ (i : Nat) (o : Oper), l[i]? = some o → askedL P ops tab fin Gl (fun k v W => (f k).holds v W) (n + i) o
  | [], _, _, i, o, h => by simp at h
  | _ :: r, n, h, 0, o, hi => by
    simp at hi
    subst hi
    exact h.1
  | _ :: r, n, h, i + 1, o, hi => by
    have := asked_of_all_l r (n + 1) h.2 i o (by simpa using hi)
    rwa [show n + 1 + i = n + (i + 1) by omega] at this

theorem set_other {L : Array Bool} {i p : Nat} (h : i ≠ p) : (L.setIfInBounds i true).getD p false = L.getD p false := by
  rw [Array.getD_eq_getD_getElem?, Array.getElem?_setIfInBounds_ne h, ← Array.getD_eq_getD_getElem?]

theorem set_at {L : Array Bool} {p : Nat} (h : p < L.size) : (L.setIfInBounds p true).getD p false = true := by
  rw [Array.getD_eq_getD_getElem?, Array.getElem?_setIfInBounds_self]
  simp [h]

variable {p q : Nat} {H : Bool → Bool → World → Prop}

end

theorem region_by_l {P : Program} {ops : Array Oper} {id : Nat} {a : Act} {w : World} {Q : Exit → Act → World → Prop} (l : List (Tmp × Fact)) (fin : List Tmp) (Gl : Array Bool → World → Prop)
    (hm : P.follows .mixedOrders = true) (hs : sound ops = true) (ht : tableOk ops (table ops) = true) (hd : (ops.all fun o => (o.dst.map fun d => decide (d < a.tmps.size)).getD true) = true)
    (hl : (l.all fun p => ops.any fun o => o.dst == some p.1) = true) (hG : Gl (Array.replicate ops.size false) w.drew)
    (hops : AskedAllL P ops (table ops) fin Gl (factsOf l a) 0 ops.toList)
    (hend : ∀ (listed : Array Bool) a' W, (∀ i, i < ops.size → listed.getD i false = true) → Gl listed W → a'.defers = a.defers → a'.tmps.size = a.tmps.size → (∀ k, fin.contains k = true → (factsOf l a k).holds (a'.tmps.getD k undef) W) → Q .normal a' W) : (Code.region id ops true).wp P Q a w := by
  refine wp_region_l (table ops) fin Gl (fun k v W => (factsOf l a k).holds v W) hm hs ht hd hG (fun k => ?_) (fun i o hi => ?_) hend
  · cases hk : l.lookup k with
    | none => left; simp [factsOf, hk, Fact.holds]
    | some fk =>
      right
      have hmem : (k, fk) ∈ l := by
        clear hl hops hend
        induction l with
        | nil => simp at hk
        | cons p l ih =>
          obtain ⟨p1, p2⟩ := p
          rw [List.lookup_cons] at hk
          by_cases hkp : (k == p1) = true
          · rw [hkp] at hk
            simp at hk hkp
            subst hk hkp
            simp
          · simp only [hkp] at hk
            exact List.mem_cons_of_mem _ (ih hk)
      exact List.all_eq_true.1 hl _ hmem
  · have := asked_of_all_l ops.toList 0 hops i o (by simpa using hi)
    rwa [Nat.zero_add] at this

/-- A store, as an operation of a region. -/
theorem gives_store {P : Program} {o : Oper} {x : Tmp → Value} {W W' : World} {R : Value → World → Prop} (ty : TypeId) (s t : Operand) (ho : o.op = .store ty s t) (p v : Value) (hs : evalBy x s = p) (ht : evalBy x t = v)
    (hr : (Instr.storeAt ty p v).run P W = .ok () W') (hR : R undef W') : gives P o x W R := by
  unfold gives
  simp only [execOp, ho, hs, ht, Sem.run_bind, hr, Result.andThen_ok, Sem.run_pure]
  exact hR

/-- Facts that last, of all slots. -/
theorem facts_keep {l : List (Tmp × Fact)} {a : Act} {W W' : World} (h : ∀ p ∈ l, ∀ u, p.2.holds u W → p.2.holds u W') (k : Tmp) (u : Value) (hu : (factsOf l a k).holds u W) : (factsOf l a k).holds u W' := by
  unfold factsOf at *
  cases hk : l.lookup k with
  | none =>
    rw [hk] at hu
    exact hu
  | some fk =>
    rw [hk] at hu
    have hmem : (k, fk) ∈ l := by
      clear hu h
      induction l with
      | nil => simp at hk
      | cons p l ih =>
        obtain ⟨p1, p2⟩ := p
        rw [List.lookup_cons] at hk
        by_cases hkp : (k == p1) = true
        · rw [hkp] at hk
          simp at hk hkp
          subst hk hkp
          simp
        · simp only [hkp] at hk
          exact List.mem_cons_of_mem _ (ih hk)
    exact h _ hmem u hu

end Go.Proofs.Ytgbhfolbkgibfaa.Reg

/- Fields of one block are written by many operations of a region, in any order. -/
namespace Go.Proofs.Ytgbhfolbkgibfaa.Reg
set_option maxRecDepth 20000
open Go.RowKit

/-- What a cell is to be: of the stores that have come up, or as it was. -/
def Sts.cell (cur : Array Value) (sts : List (Nat × Nat × Value)) (L : Array Bool) (j : Nat) : Option Value :=
  match sts.find? (fun s => s.2.1 == j && L.getD s.1 false) with
  | some s => some s.2.2
  | none => cur[j]?

/-- In the midst of stores into block g: operation, cell and value of each. -/
structure Sts (w0 : World) (g : Nat) (t : TypeId) (cur : Array Value) (sts : List (Nat × Nat × Value)) (L : Array Bool) (W : World) : Prop where
  os : OnlyS (fun k => k = g) w0 W
  ex : ∃ cc : Array Value, Blk W g t cc ∧ cc.size = cur.size ∧ ∀ j, cc[j]? = Sts.cell cur sts L j

theorem find_same {α : Type} (l : List α) (p q : α → Bool) (h : ∀ s ∈ l, p s = q s) : l.find? p = l.find? q := by
  induction l with
  | nil => rfl
  | cons x r ih =>
    rw [List.find?_cons, List.find?_cons, h x (by simp), ih fun s hs => h s (List.mem_cons_of_mem _ hs)]

section
variable {P : Program} {ops : Array Oper} {tab : List (List Nat)} {fin : List Tmp} {f : Tmp → Fact} {i : Nat} {o : Oper} {w0 : World} {g : Nat} {t : TypeId} {cur : Array Value} {sts : List (Nat × Nat × Value)}

/-- An operation that is none of the stores. -/
theorem askedL_none (hi : (sts.all fun s => !(s.1 == i)) = true) (h : ∀ L, Asked P ops tab fin (Sts w0 g t cur sts L) f i o) : askedL P ops tab fin (Sts w0 g t cur sts) (fun k v W => (f k).holds v W) i o := fun x W L _ _ hg hk => by
  have e : Sts w0 g t cur sts (L.setIfInBounds i true) = Sts w0 g t cur sts L := by
    funext W
    have h1 : ∀ j, Sts.cell cur sts (L.setIfInBounds i true) j = Sts.cell cur sts L j := fun j => by
      unfold Sts.cell
      rw [find_same sts _ (fun s => s.2.1 == j && L.getD s.1 false) fun s hs => by
        have h2 := List.all_eq_true.1 hi s hs
        rw [set_other fun e => by simp [e] at h2]]
    exact propext ⟨fun ⟨a, cc, b, c, d⟩ => ⟨a, cc, b, c, fun j => by rw [d, h1]⟩, fun ⟨a, cc, b, c, d⟩ => ⟨a, cc, b, c, fun j => by rw [d, h1]⟩⟩
  rw [e]
  exact h L x W hg hk

/-- One of the stores. -/
theorem askedL_store (hg : guardOk ops f o) (ty : TypeId) (a b : Operand) (j : Nat) (v : Value) (ho : o.op = .store ty a b) (ha : opFact f a = .is (.pointer (some ⟨g, j, none⟩))) (hb : opFact f b = .is v) (hd : o.dst = none)
    (hk : ∀ k u W W', (f k).holds u W → (f k).holds u W') (hil : i < ops.size) (hj : j < cur.size) (h1 : v.oneCell' = true) (hs : (P.info? ty).map (·.size) = some 1)
    (hu1 : ∀ s ∈ sts, s.2.1 = j → s.1 = i ∧ s.2.2 = v) (hu2 : ∃ s ∈ sts, s.1 = i ∧ s.2.1 = j) (hu3 : ∀ s ∈ sts, s.1 = i → s.2.1 = j) : askedL P ops tab fin (Sts w0 g t cur sts) (fun k v W => (f k).holds v W) i o := fun x W L hL _ hg0 ht => by
  refine ⟨guard_ok hg ht, ?_⟩
  obtain ⟨hos, cc, hbk, hsz, hcc⟩ := hg0
  have e1 := evalBy_opVal ht a (by rw [ho]; simp [Op.operands]) ha
  have e2 := evalBy_opVal ht b (by rw [ho]; simp [Op.operands]) hb
  have hset : OnlyS (fun b => b = g) W (W.setCell ⟨g, j, none⟩ v) := (OnlyS.refl (fun b => b = g) W).setCell (p := ⟨g, j, none⟩) (fun _ => rfl) v
  refine gives_store ty a b ho _ _ e1 e2 (run_store_fld hbk ty j (by omega) v h1 hs) ⟨⟨hos.trans hset, _, hbk.set j v, by simpa using hsz, fun j' => ?_⟩, fun k u _ _ hu => hk k u _ _ hu, fun k h => by rw [hd] at h; cases h⟩
  by_cases hjj : j' = j
  · subst hjj
    rw [Array.getElem?_setIfInBounds_self, if_pos (by omega)]
    unfold Sts.cell
    cases hf : sts.find? (fun s => s.2.1 == j' && (L.setIfInBounds i true).getD s.1 false) with
    | some s =>
      have h2 := List.find?_some hf
      simp only [Bool.and_eq_true, beq_iff_eq] at h2
      exact congrArg some (hu1 s (List.mem_of_find?_eq_some hf) h2.1).2.symm
    | none =>
      obtain ⟨s, hs1, hs2, hs3⟩ := hu2
      have h2 := List.find?_eq_none.1 hf s hs1
      rw [hs2, hs3, set_at (L := L) (p := i) (by omega)] at h2
      simp at h2
  · rw [Array.getElem?_setIfInBounds_ne (Ne.symm hjj), hcc]
    unfold Sts.cell
    rw [find_same sts _ (fun s => s.2.1 == j' && (L.setIfInBounds i true).getD s.1 false) fun s hs => by
      by_cases hsj : s.2.1 = j'
      · rw [set_other fun e => hjj (by rw [← hsj]; exact hu3 s hs e.symm)]
      · rw [show (s.2.1 == j') = false from beq_false_of_ne hsj, Bool.false_and, Bool.false_and]]
end

/-- Nothing has come up. -/
theorem Sts.start {w w0 : World} {g : Nat} {t : TypeId} {cur : Array Value} {sts : List (Nat × Nat × Value)} {n : Nat} (hos : OnlyS (fun k => k = g) w0 w) (hb : Blk w g t cur) : Sts w0 g t cur sts (Array.replicate n false) w := by
  refine ⟨hos, cur, hb, rfl, fun j => ?_⟩
  unfold Sts.cell
  rw [List.find?_eq_none.2 fun s _ => ?_]
  rw [Array.getD_eq_getD_getElem?, Array.getElem?_replicate]
  split <;> simp

/-- All have come up. -/
theorem Sts.ended {w w0 : World} {g : Nat} {t : TypeId} {cur : Array Value} {sts : List (Nat × Nat × Value)} {L : Array Bool} {n : Nat} (h : Sts w0 g t cur sts L w) (hL : ∀ i, i < n → L.getD i false = true) (hn : (sts.all fun s => decide (s.1 < n)) = true) (cs : Array Value) (hc : cs.size = cur.size)
    (hcs : ∀ j, j < cur.size → cs[j]? = match sts.find? (fun s => s.2.1 == j) with | some s => some s.2.2 | none => cur[j]?) : OnlyS (fun k => k = g) w0 w ∧ Blk w g t cs := by
  obtain ⟨hos, cc, hb, hs, hcc⟩ := h
  refine ⟨hos, ?_⟩
  have e : cc = cs := by
    apply Array.ext_getElem?
    intro j
    by_cases hj : j < cur.size
    · rw [hcc, hcs j hj]
      unfold Sts.cell
      rw [find_same sts _ (fun s => s.2.1 == j) fun s hs => by
        have h2 := List.all_eq_true.1 hn s hs
        rw [hL s.1 (by simpa using h2), Bool.and_true]]
    · rw [Array.getElem?_eq_none (by omega), Array.getElem?_eq_none (by omega)]
  rw [← e]
  exact hb
end Go.Proofs.Ytgbhfolbkgibfaa.Reg

