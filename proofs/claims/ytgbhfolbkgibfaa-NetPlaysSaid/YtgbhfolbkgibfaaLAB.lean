/- Joined: MsgMath, NetMath, Frame, Bys, Blk, Only. -/
import Derived.Test.YtgbhfolbkgibfaaLAA
import Derived.Test.YtgbhfolbkgibfaaRows
import Derived.WalkKit
import Derived.ProofKit
import Derived.OpenShut
import Derived.ShutString
import Derived.ChangeOld
import Derived.Below
import Derived.Laws.AppendOwnNone
import Derived.WalkSpells
import Derived.WalkLawsBesides
import Derived.Lib.Hide
import Derived.Lib.BufferRead
import Derived.Laws.Rows
import Derived.StillTailTactics
import Derived.BigQuiet
import Derived.Deep.QuietTactic
import Derived.Deep.Draws
/- Layer 18's messages as plain data: which are formed, their bytes, and how bytes are read. No program is named here. -/
namespace Go.Proofs.Ytgbhfolbkgibfaa.MsgMath
set_option maxRecDepth 20000
open BinMath CmdMath

/-- A message: kind, from, to, term, index, the log's term, commit, stamp, yes, entries, members, image. -/
structure Mg where
  k : Int
  f : Nat
  o : Nat
  t : Nat
  i : Nat
  l : Nat
  c : Nat
  s : Nat
  y : Bool
  e : List Ent
  m : List Nat
  g : List UInt8
deriving DecidableEq

def Mg.zero : Mg := ⟨0, 0, 0, 0, 0, 0, 0, 0, false, [], [], []⟩

/-- The fields lie in their types' ranges. -/
structure Mg.Ok (m : Mg) : Prop where
  kl : -9223372036854775808 ≤ m.k
  kh : m.k < 9223372036854775808
  f : m.f < 18446744073709551616
  o : m.o < 18446744073709551616
  t : m.t < 18446744073709551616
  i : m.i < 18446744073709551616
  l : m.l < 18446744073709551616
  c : m.c < 18446744073709551616
  s : m.s < 18446744073709551616
  e : ∀ x ∈ m.e, x.Ok
  m : ∀ x ∈ m.m, x < 18446744073709551616

theorem Mg.Ok.zero : Mg.Ok Mg.zero := ⟨by decide, by decide, by decide, by decide, by decide, by decide, by decide, by decide, by decide, by simp [Mg.zero], by simp [Mg.zero]⟩

/-- A message with the fields of its kind alone. -/
def bareM (m : Mg) : Mg :=
  if m.k = 1 then ⟨m.k, m.f, m.o, m.t, m.i, m.l, 0, 0, false, [], [], []⟩
  else if m.k = 2 then ⟨m.k, m.f, m.o, m.t, 0, 0, 0, 0, m.y, [], [], []⟩
  else if m.k = 3 then ⟨m.k, m.f, m.o, m.t, m.i, m.l, m.c, m.s, false, m.e, [], []⟩
  else if m.k = 4 then ⟨m.k, m.f, m.o, m.t, m.i, 0, 0, m.s, m.y, [], [], []⟩
  else if m.k = 5 then ⟨m.k, m.f, m.o, m.t, m.i, m.l, 0, m.s, false, [], m.m, m.g⟩
  else ⟨m.k, m.f, m.o, m.t, 0, 0, 0, 0, false, [], [], []⟩

abbrev MT : Nat := 4611686018427387904
def nodeOk (n : Nat) : Bool := decide (1 ≤ n ∧ n ≤ 7)
def headOk (m : Mg) : Bool := decide (1 ≤ m.k ∧ m.k ≤ 5) && (nodeOk m.f && (nodeOk m.o && termOk m.t))
def restOk (m : Mg) : Bool := decide (m = bareM m) && (decide (m.i ≤ MT ∧ m.l ≤ MT ∧ m.c ≤ MT) && decide (m.e.length ≤ 4 ∧ m.g.length ≤ 16384))
def formedM (m : Mg) : Bool := headOk m && (restOk m && (m.e.all formed && (decide (m.k ≠ 5) || memOk m.m)))

def entsL : List Ent → List UInt8
  | [] => []
  | x :: r => numL (putL x).length ++ (putL x ++ entsL r)
def flagL (y : Bool) : UInt8 := if y then 1 else 0

def bodyL (m : Mg) : List UInt8 :=
  if m.k = 1 then numL m.i ++ numL m.l
  else if m.k = 2 then [flagL m.y]
  else if m.k = 3 then numL m.i ++ (numL m.l ++ (numL m.c ++ (numL m.s ++ (numL m.e.length ++ entsL m.e))))
  else if m.k = 4 then flagL m.y :: (numL m.i ++ numL m.s)
  else if m.k = 5 then numL m.i ++ (numL m.l ++ (numL m.s ++ (numL m.m.length ++ (idsL m.m ++ (numL m.g.length ++ m.g)))))
  else []

/-- The bytes of a message. -/
def putM (m : Mg) : List UInt8 := UInt8.ofNat (m.k % 256).toNat :: (numL m.f ++ (numL m.o ++ (numL m.t ++ bodyL m)))

/-! ### Reading -/

abbrev Rd (α : Type) := List UInt8 → Except Nat (α × List UInt8)
def retP {α : Type} (x : α) : Rd α := fun l => .ok (x, l)
def failP {α : Type} (c : Nat) : Rd α := fun _ => .error c
def bindP {α β : Type} (p : Rd α) (q : α → Rd β) : Rd β := fun l => match p l with
  | .error c => .error c
  | .ok (x, r) => q x r

theorem bindP_ok {α β : Type} {p : Rd α} {q : α → Rd β} {l r : List UInt8} {x : α} (h : p l = .ok (x, r)) : bindP p q l = q x r := by simp only [bindP, h]
theorem bindP_err {α β : Type} {p : Rd α} {q : α → Rd β} {l : List UInt8} {c : Nat} (h : p l = .error c) : bindP p q l = .error c := by simp only [bindP, h]

/-- What is read of bytes is read of their beginning, or that ends too early. -/
def Pref {α : Type} (p : Rd α) : Prop := ∀ (r s q : List UInt8) (v : α), p (r ++ s) = .ok (v, q) → (∃ q', q = q' ++ s ∧ p r = .ok (v, q')) ∨ p r = .error 2
theorem Pref.ret {α : Type} (x : α) : Pref (retP x) := fun r s q v h => by
  simp only [retP, Except.ok.injEq, Prod.mk.injEq] at h
  exact .inl ⟨r, h.2.symm, by rw [← h.1]; rfl⟩
theorem Pref.fail {α : Type} (c : Nat) : Pref (failP c : Rd α) := fun r s q v h => by cases h
theorem Pref.bind {α β : Type} {p : Rd α} {q : α → Rd β} (hp : Pref p) (hq : ∀ x, Pref (q x)) : Pref (bindP p q) := fun r s u v h => by
  cases hx : p (r ++ s) with
  | error c => rw [bindP_err hx] at h; cases h
  | ok w =>
    obtain ⟨x, t⟩ := w
    rw [bindP_ok hx] at h
    rcases hp r s t x hx with ⟨t', rfl, h1⟩ | h1
    · rw [bindP_ok h1]
      exact hq x t' s u v h
    · exact .inr (bindP_err h1)
/-- A number in a range. -/
def gRange (lo hi : Nat) : Rd Nat := bindP gNum fun n => if lo ≤ n ∧ n ≤ hi then retP n else failP 3
def gYes : Rd Bool := bindP gByte fun c => if c ≤ 1 then retP (decide (c = 1)) else failP 3
def gEnts : Nat → Rd (List Ent)
  | 0 => retP []
  | n + 1 => bindP (gText 128) fun x => if (getR x).2 = 0 then bindP (gEnts n) fun es => retP ((getR x).1 :: es) else failP (getR x).2

def gBody (k f o t : Nat) : Rd Mg :=
  if k = 1 then bindP (gRange 0 MT) fun i => bindP (gRange 0 MT) fun l => retP ⟨1, f, o, t, i, l, 0, 0, false, [], [], []⟩
  else if k = 2 then bindP gYes fun y => retP ⟨2, f, o, t, 0, 0, 0, 0, y, [], [], []⟩
  else if k = 3 then bindP (gRange 0 MT) fun i => bindP (gRange 0 MT) fun l => bindP (gRange 0 MT) fun c => bindP gNum fun s => bindP gNum fun n =>
    if n ≤ 4 then bindP (gEnts n) fun es => retP ⟨3, f, o, t, i, l, c, s, false, es, [], []⟩ else failP 4
  else if k = 4 then bindP gYes fun y => bindP (gRange 0 MT) fun i => bindP gNum fun s => retP ⟨4, f, o, t, i, 0, 0, s, y, [], [], []⟩
  else bindP (gRange 0 MT) fun i => bindP (gRange 0 MT) fun l => bindP gNum fun s => bindP gMem fun m => bindP (gText 16384) fun g => retP ⟨5, f, o, t, i, l, 0, s, false, [], m, g⟩

def gMsg : Rd Mg := bindP gByte fun k => if 1 ≤ k ∧ k ≤ 5 then bindP (gRange 1 7) fun f => bindP (gRange 1 7) fun o => bindP (gRange 1 MT) fun t => gBody k f o t else failP 3

/-- What Get answers. -/
def getM (l : List UInt8) : Mg × Nat := match gMsg l with
  | .error c => (Mg.zero, c)
  | .ok (m, r) => if r = [] then (m, 0) else (Mg.zero, 5)

/-! ### What was laid is read -/

theorem gRange_lay {lo hi n : Nat} (r : List UInt8) (h1 : lo ≤ n) (h2 : n ≤ hi) (hn : n < 18446744073709551616) : gRange lo hi (numL n ++ r) = .ok (n, r) := by
  rw [gRange, bindP_ok (gNum_lay n r hn), if_pos ⟨h1, h2⟩]
  rfl
theorem gYes_lay (y : Bool) (r : List UInt8) : gYes (flagL y :: r) = .ok (y, r) := by
  cases y <;> rfl
theorem gByte_lay {k : Nat} (h : k < 256) (r : List UInt8) : gByte (UInt8.ofNat k :: r) = .ok (k, r) := by
  simp [gByte]
  omega

/-- An entry's bytes are few. -/
theorem idsL_len : ∀ (m : List Nat), (∀ x ∈ m, x < 18446744073709551616) → (idsL m).length ≤ 9 * m.length
  | [], _ => by simp [idsL]
  | x :: r, h => by
    have h1 := idsL_len r fun y hy => h y (by simp [hy])
    have h2 := nb_le x (h x (by simp))
    rw [idsL, List.length_append, numL_length, List.length_cons]
    omega
theorem putL_len (e : Ent) (hok : e.Ok) (h : formed e = true) : (putL e).length ≤ 128 := by
  have h1 := nb_le e.t hok.t
  have h2 := nb_le e.c hok.c
  have h3 := nb_le e.s hok.s
  have h4 : (tailL e).length ≤ 110 := by
    unfold tailL
    unfold formed at h
    rw [Bool.and_eq_true] at h
    split
    · rename_i hk
      rw [if_neg (by omega), if_pos hk, Bool.and_eq_true] at h
      have hd : e.d.length ≤ 64 := of_decide_eq_true h.2.1
      have h5 := nb_le e.d.length (by omega)
      simp only [List.length_append, numL_length]
      omega
    · split
      · rename_i hk2 hk
        rw [if_neg (by omega), if_neg hk2, if_pos hk, Bool.and_eq_true] at h
        have hm := memOk_len h.2.2
        have h5 := nb_le e.m.length (by omega)
        have h6 := idsL_len e.m hok.m
        simp only [List.length_append, numL_length]
        omega
      · simp
  rw [putL, List.length_append, List.length_cons, numL_length]
  omega

theorem gEnts_lay : ∀ (es : List Ent) (r : List UInt8), (∀ x ∈ es, x.Ok) → es.all formed = true → gEnts es.length (entsL es ++ r) = .ok (es, r)
  | [], r, _, _ => rfl
  | e :: es, r, hok, hf => by
    rw [List.all_cons, Bool.and_eq_true] at hf
    have he := hok e (by simp)
    have h1 := putL_len e he hf.1
    have h2 := gText_lay (putL e) (entsL es ++ r) 128 h1 (by omega)
    rw [List.length_cons, gEnts, entsL, List.append_assoc, List.append_assoc, bindP_ok h2, getR_lay e he hf.1]
    simp only [if_pos]
    rw [bindP_ok (gEnts_lay es r (fun x hx => hok x (by simp [hx])) hf.2)]
    rfl

theorem kind_cases {k : Int} (h : 1 ≤ k ∧ k ≤ 5) : k = 1 ∨ k = 2 ∨ k = 3 ∨ k = 4 ∨ k = 5 := by omega

theorem gMsg_lay (m : Mg) (hok : m.Ok) (h : formedM m = true) (r : List UInt8) : gMsg (putM m ++ r) = .ok (m, r) := by
  simp only [formedM, headOk, restOk, nodeOk, termOk, Bool.and_eq_true, decide_eq_true_eq] at h
  obtain ⟨⟨hk, hf, ho, ht⟩, ⟨hb, ⟨hi, hl, hc⟩, he4, hg⟩, hall, hmem⟩ := h
  have hkn : (m.k % 256).toNat = m.k.toNat := by omega
  have e0 : gMsg (putM m ++ r) = gBody m.k.toNat m.f m.o m.t (bodyL m ++ r) := by
    rw [gMsg, putM, hkn, List.cons_append, bindP_ok (gByte_lay (by omega) _), if_pos (by omega), List.append_assoc, bindP_ok (gRange_lay _ hf.1 hf.2 hok.f), List.append_assoc, bindP_ok (gRange_lay _ ho.1 ho.2 hok.o), List.append_assoc, bindP_ok (gRange_lay _ ht.1 ht.2 hok.t)]
  rw [e0]
  obtain ⟨k, f, o, t, i, l, c, s, y, e, mm, g⟩ := m
  simp only at hk hb hi hl hc he4 hg hall hmem ⊢
  rcases kind_cases hk with rfl | rfl | rfl | rfl | rfl
  · simp only [bareM, if_pos, Mg.mk.injEq, true_and] at hb
    obtain ⟨rfl, rfl, rfl, rfl, rfl, rfl⟩ := hb
    simp only [gBody, bodyL, if_pos, show ((1 : Int).toNat = 1) from rfl, List.append_assoc]
    rw [bindP_ok (gRange_lay _ (Nat.zero_le _) hi hok.i), bindP_ok (gRange_lay _ (Nat.zero_le _) hl hok.l)]
    rfl
  · simp only [bareM, if_pos, Mg.mk.injEq, true_and, if_neg (show ¬ (2 : Int) = 1 by decide)] at hb
    obtain ⟨rfl, rfl, rfl, rfl, rfl, rfl, rfl⟩ := hb
    simp only [gBody, bodyL, if_pos, show ((2 : Int).toNat = 2) from rfl, if_neg (show ¬ (2 : Int) = 1 by decide), if_neg (show ¬ (2 : Nat) = 1 by decide), List.cons_append, List.nil_append]
    rw [bindP_ok (gYes_lay y r)]
    rfl
  · simp only [bareM, if_pos, Mg.mk.injEq, true_and, if_neg (show ¬ (3 : Int) = 1 by decide), if_neg (show ¬ (3 : Int) = 2 by decide)] at hb
    obtain ⟨rfl, rfl, rfl⟩ := hb
    simp only [gBody, bodyL, if_pos, show ((3 : Int).toNat = 3) from rfl, if_neg (show ¬ (3 : Int) = 1 by decide), if_neg (show ¬ (3 : Int) = 2 by decide), if_neg (show ¬ (3 : Nat) = 1 by decide), if_neg (show ¬ (3 : Nat) = 2 by decide), List.append_assoc]
    rw [bindP_ok (gRange_lay _ (Nat.zero_le _) hi hok.i), bindP_ok (gRange_lay _ (Nat.zero_le _) hl hok.l), bindP_ok (gRange_lay _ (Nat.zero_le _) hc hok.c), bindP_ok (gNum_lay s _ hok.s), bindP_ok (gNum_lay e.length _ (by omega)), if_pos he4, bindP_ok (gEnts_lay e r hok.e hall)]
    rfl
  · simp only [bareM, if_pos, Mg.mk.injEq, true_and, if_neg (show ¬ (4 : Int) = 1 by decide), if_neg (show ¬ (4 : Int) = 2 by decide), if_neg (show ¬ (4 : Int) = 3 by decide)] at hb
    obtain ⟨rfl, rfl, rfl, rfl, rfl⟩ := hb
    simp only [gBody, bodyL, if_pos, show ((4 : Int).toNat = 4) from rfl, if_neg (show ¬ (4 : Int) = 1 by decide), if_neg (show ¬ (4 : Int) = 2 by decide), if_neg (show ¬ (4 : Int) = 3 by decide), if_neg (show ¬ (4 : Nat) = 1 by decide), if_neg (show ¬ (4 : Nat) = 2 by decide), if_neg (show ¬ (4 : Nat) = 3 by decide), List.cons_append, List.append_assoc]
    rw [bindP_ok (gYes_lay y _), bindP_ok (gRange_lay _ (Nat.zero_le _) hi hok.i), bindP_ok (gNum_lay s _ hok.s)]
    rfl
  · simp only [bareM, if_pos, Mg.mk.injEq, true_and, if_neg (show ¬ (5 : Int) = 1 by decide), if_neg (show ¬ (5 : Int) = 2 by decide), if_neg (show ¬ (5 : Int) = 3 by decide), if_neg (show ¬ (5 : Int) = 4 by decide)] at hb
    obtain ⟨rfl, rfl, rfl, -⟩ := hb
    have hmo : memOk mm = true := by simpa using hmem
    simp only [gBody, bodyL, if_pos, show ((5 : Int).toNat = 5) from rfl, if_neg (show ¬ (5 : Int) = 1 by decide), if_neg (show ¬ (5 : Int) = 2 by decide), if_neg (show ¬ (5 : Int) = 3 by decide), if_neg (show ¬ (5 : Int) = 4 by decide), if_neg (show ¬ (5 : Nat) = 1 by decide), if_neg (show ¬ (5 : Nat) = 2 by decide), if_neg (show ¬ (5 : Nat) = 3 by decide), if_neg (show ¬ (5 : Nat) = 4 by decide), List.append_assoc]
    rw [bindP_ok (gRange_lay _ (Nat.zero_le _) hi hok.i), bindP_ok (gRange_lay _ (Nat.zero_le _) hl hok.l), bindP_ok (gNum_lay s _ hok.s), bindP_ok (gMem_lay mm _ hmo), bindP_ok (gText_lay g r 16384 hg (by omega))]
    rfl

theorem getM_lay (m : Mg) (hok : m.Ok) (h : formedM m = true) : getM (putM m) = (m, 0) := by
  have e := gMsg_lay m hok h []
  rw [List.append_nil] at e
  unfold getM
  rw [e]
  simp
/-! ### What is read was laid -/

theorem bindP_back {α β : Type} {p : Rd α} {q : α → Rd β} {l r : List UInt8} {v : β} (h : bindP p q l = .ok (v, r)) : ∃ x t, p l = .ok (x, t) ∧ q x t = .ok (v, r) := by
  cases hx : p l with
  | error c => rw [bindP_err hx] at h; cases h
  | ok w =>
    obtain ⟨x, t⟩ := w
    rw [bindP_ok hx] at h
    exact ⟨x, t, rfl, h⟩
theorem retP_back {α : Type} {x v : α} {l r : List UInt8} (h : retP x l = .ok (v, r)) : v = x ∧ r = l := by
  simp only [retP, Except.ok.injEq, Prod.mk.injEq] at h
  exact ⟨h.1.symm, h.2.symm⟩
theorem ite_back {α : Type} {c : Prop} [Decidable c] {p : Rd α} {k : Nat} {l r : List UInt8} {v : α} (h : (if c then p else failP k) l = .ok (v, r)) : c ∧ p l = .ok (v, r) := by
  by_cases hc : c
  · rw [if_pos hc] at h; exact ⟨hc, h⟩
  · rw [if_neg hc] at h; cases h
/-! ### The first fault -/

end Go.Proofs.Ytgbhfolbkgibfaa.MsgMath

/- Layer 19 as plain data: messages under way, and ways that are blocked. No program is named here. -/
namespace Go.Proofs.Ytgbhfolbkgibfaa.NetMath
set_option maxRecDepth 20000
open CmdMath MsgMath

/-- Messages in their order, and ways that are blocked. -/
structure Nt where
  L : List Mg
  W : List (Nat × Nat)

def Nt.none : Nt := ⟨[], []⟩
def Nt.blocked (n : Nt) (a b : Nat) : Bool := decide ((a, b) ∈ n.W)
def blockW (ws : List (Nat × Nat)) (a b : Nat) (yes : Bool) : List (Nat × Nat) := ws.filter (fun x => decide (x ≠ (a, b))) ++ if yes then [(a, b)] else []
def Nt.block (n : Nt) (a b : Nat) (yes : Bool) : Nt := ⟨n.L, blockW n.W a b yes⟩
/-- What Send answers, and what it leaves. -/
def Nt.send (n : Nt) (m : Mg) : Nat × Nt :=
  if formedM m = false then (1, n) else if n.blocked m.f m.o = true then (6, n) else if 256 ≤ n.L.length then (7, n) else (0, ⟨n.L ++ [m], n.W⟩)
/-- What At answers. -/
def Nt.at_ (n : Nt) (i : Int) : Mg × Nat := if h : 0 ≤ i ∧ i.toNat < n.L.length then (n.L[i.toNat]'h.2, 0) else (Mg.zero, 9)
def Nt.take (n : Nt) (i : Int) : Nt := if 0 ≤ i ∧ i.toNat < n.L.length then ⟨n.L.eraseIdx i.toNat, n.W⟩ else n
def Nt.twice (n : Nt) (i : Int) : Nat × Nt :=
  if h : 0 ≤ i ∧ i.toNat < n.L.length then if 256 ≤ n.L.length then (7, n) else (0, ⟨n.L ++ [n.L[i.toNat]'h.2], n.W⟩) else (9, n)

theorem block_len (n : Nt) (a b : Nat) (yes : Bool) : (n.block a b yes).W.length ≤ n.W.length + 1 := by
  unfold Nt.block blockW
  rw [List.length_append]
  have h1 := List.length_filter_le (fun x => decide (x ≠ (a, b))) n.W
  have h2 : (if yes then [(a, b)] else []).length ≤ 1 := by cases yes <;> simp
  show (n.W.filter fun x => decide (x ≠ (a, b))).length + (if yes then [(a, b)] else []).length ≤ n.W.length + 1
  omega
end Go.Proofs.Ytgbhfolbkgibfaa.NetMath

/- What every law's proof begins and ends with: an argument that came in, read again behind a call that wrote nothing that was there. -/
namespace Go.Proofs.Ytgbhfolbkgibfaa
set_option maxRecDepth 20000
open Go.ChangeShapes Go.WideShapes Go.ChangeAt Go.RowKit

theorem own : ownKnob Try.prog.godebug = none := by kernel_rfl
theorem laidOut : laidOutB Try.prog = true := by kernel_rfl

/-- A slice of integers that came in: it is nil; or it leads to a row of cap cells, the numbers zs, the first len of which are its elements; each fits its kind. -/
def IsRow (k : IntKind) (w : World) (a : Option Addr) (len cap : Nat) (zs : List Int) : Prop :=
  (a = none ∧ len = 0 ∧ cap = 0 ∧ zs = []) ∨
  ∃ x, a = some x ∧ len ≤ cap ∧ cap ≤ maxLen ∧ zs.length = cap ∧ (∀ i, i < zs.length → w.cell? (x.add i) = some (.int k (zs.getD i 0))) ∧ ∀ n ∈ zs, (Lit.int k n).wf = true

end Go.Proofs.Ytgbhfolbkgibfaa

/- Bytes in the program's memory, and what an append to them gives. -/
namespace Go.Proofs.Ytgbhfolbkgibfaa
set_option maxRecDepth 20000
open Go.RowKit

/-- A byte as a cell holds it. -/
def bv (c : UInt8) : Value := .int .u8 (c.toNat : Int)

theorem info_byte : (Try.prog.info? 5).map (fun i => (i.zero, i.size, i.bytes)) = some (some (.int .u8 0), 1, 1) := by kernel_rfl

/-- A slice of bytes in memory of the call's own, from block B on: the bytes l. -/
def Row (w : World) (B : Nat) (v : Value) (l : List UInt8) : Prop := w.ownsRow B 5 1 v l.length (l.map bv)

/-- A slice of bytes, wherever it lies: the bytes l. -/
def Bys (w : World) (v : Value) (l : List UInt8) : Prop :=
  (v = .slice none 0 0 ∧ l = []) ∨
  ∃ ad cap, v = .slice (some ad) l.length cap ∧ ∀ i (h : i < l.length), w.cell? (ad.add i) = some (bv l[i])

theorem addr_add (b o j : Nat) : (⟨b, o, none⟩ : Addr).add j = ⟨b, o + j, none⟩ := by
  by_cases h : j = 0 <;> simp [Addr.add, h]

theorem Bys.below {w w' : World} {v : Value} {l : List UInt8} (h : Bys w v l) {B : Nat} (hB : w.heap.size ≤ B) (hb : Below B w w') : Bys w' v l := by
  rcases h with h | ⟨ad, cap, hv, hc⟩
  · exact .inl h
  · exact .inr ⟨ad, cap, hv, fun i hi => by
      have h1 := hc i hi
      rw [hb.cell (p := ad.add i) (Nat.lt_of_lt_of_le (World.block_lt_of_cell? w _ h1) hB)]
      exact h1⟩

theorem Row.bys {w : World} {B : Nat} {v : Value} {l : List UInt8} (h : Row w B v l) : Bys w v l := by
  have h0 := h
  rcases h.2 with ⟨rfl, hl⟩ | ⟨g, cap, cur, rfl, hB, hg, hn, hm, hs, ht⟩
  · exact .inl ⟨rfl, List.eq_nil_of_length_eq_zero hl⟩
  · refine .inr ⟨⟨g, 0, none⟩, cap, rfl, fun i hi => ?_⟩
    rw [addr_add, Nat.zero_add, h0.cellAt i (by omega)]
    simp [hi]

/-- 'string(v)'. -/
theorem conv_bys {w : World} {v : Value} {l : List UInt8} (h : Bys w v l) : (convert 34 9 v).run Try.prog w = .ok (.string ⟨l.toArray⟩) w := by
  rcases h with ⟨rfl, rfl⟩ | ⟨ad, cap, rfl, hc⟩
  · exact Lib.run_convert_nil_bytes w _ _ _ 0 Try.underlying34 Try.underlying5 Try.underlying9
  · exact run_convert_bytes_back w _ _ _ ad cap l Try.underlying34 Try.underlying5 Try.underlying9 hc

theorem bytes_of (zs : List Int) (h : ∀ n ∈ zs, (Lit.int .u8 n).wf = true) : ∃ l : List UInt8, zs = l.map fun c => (c.toNat : Int) := by
  induction zs with
  | nil => exact ⟨[], rfl⟩
  | cons z zs ih =>
    obtain ⟨l, hl⟩ := ih fun n hn => h n (List.mem_cons_of_mem _ hn)
    have hz := bounds_u8 (h z (by simp))
    refine ⟨UInt8.ofNat z.toNat :: l, ?_⟩
    simp [← hl]
    omega

/-- What came in. -/
theorem IsRow.bys {w : World} {a : Option Addr} {len cap : Nat} {zs : List Int} (h : IsRow .u8 w a len cap zs) : ∃ l : List UInt8, l.length = len ∧ Bys w (.slice a len cap) l := by
  rcases h with ⟨rfl, rfl, rfl, rfl⟩ | ⟨ad, rfl, hl, hm, hz, hc, hw⟩
  · exact ⟨[], rfl, .inl ⟨rfl, rfl⟩⟩
  · obtain ⟨l, rfl⟩ := bytes_of zs hw
    have hll : l.length = cap := by simpa using hz
    have e : (l.take len).length = len := by rw [List.length_take]; omega
    refine ⟨l.take len, e, .inr ⟨ad, cap, by rw [e], fun i hi => ?_⟩⟩
    have hi' : i < l.length := by rw [e] at hi; omega
    rw [hc i (by simpa using hi')]
    simp [bv, List.getD, hi']

/-- The cells of a text, one behind the other. -/
theorem cells_bys {w : World} {ad : Addr} {l : List UInt8} (hc : ∀ i (h : i < l.length), w.cell? (ad.add i) = some (bv l[i])) : ∀ (j : Nat) (u : Value), (l.map bv)[j]? = some u → w.cell? (ad.add j) = some u := by
  intro j u h
  have hj : j < l.length := by have := (List.getElem?_eq_some_iff.1 h).1; simpa using this
  rw [hc j hj]
  simpa [hj] using h

theorem one_bv (l : List UInt8) : ∀ u ∈ l.map bv, u.oneCell' = true := by
  intro u hu
  obtain ⟨c, _, rfl⟩ := List.mem_map.1 hu
  simp [bv, Value.oneCell']

/-- append(v, x...), v the call's own. -/
theorem append_bys {w : World} {B : Nat} {v x : Value} {l l' : List UInt8} (hB : B ≤ w.heap.size) (h : Row w B v l) (hx : Bys w x l') (hlen : l.length + l'.length ≤ 140737488355328) :
    ∃ v' w', (Builtin.append_ #[34, 34] 34 #[v, x]).run Try.prog w = .ok v' w' ∧ Row w' B v' (l ++ l') ∧ w.grownBy w' v.ownBlock := by
  obtain ⟨i0, hi, hz0, hz1, hz2⟩ := info_parts info_byte
  rcases hx with ⟨rfl, rfl⟩ | ⟨ad, cap, rfl, hc⟩
  · refine ⟨v, w, run_append_owned_none (P := Try.prog) (w := w) B _ _ _ i0 1 Try.underlying34 hi v l.length (l.map bv) h, by simpa using h, ?_⟩
    exact ⟨rfl, rfl, rfl, Nat.le_refl _, fun _ _ _ => rfl⟩
  · obtain ⟨v', w', hr, h1, h2, h3⟩ := run_append_own (P := Try.prog) w B 34 34 5 i0 (.int .u8 0) 1 1 Try.underlying34 hi hz0 hz1 hz2 rfl (by decide) v l.length (l.map bv) h ad l'.length cap (l'.map bv) (by simp) (cells_bys hc) (one_bv l') (by unfold maxLen; omega) (by omega) hB
    refine ⟨v', w', hr, ?_, h2⟩
    unfold Row
    rw [List.length_append, List.map_append]
    exact h1

/-- append([]byte{}, x...): nothing that was there is written. -/
theorem append_lit {w : World} {B g : Nat} {x : Value} {l : List UInt8} (hB : B ≤ g) (hg : w.heap[g]? = some (.cells #[] 5 (0, 0))) (hx : Bys w x l) (hlen : l.length ≤ 140737488355328) :
    ∃ v' w', (Builtin.append_ #[34, 34] 34 #[.slice (some ⟨g, 0, none⟩) 0 0, x]).run Try.prog w = .ok v' w' ∧ Row w' B v' l ∧ Below w.heap.size w w' := by
  obtain ⟨i0, hi, hz0, hz1, hz2⟩ := info_parts info_byte
  have hlt : g < w.heap.size := (Array.getElem?_eq_some_iff.1 hg).1
  have hrow : w.ownsRow B 5 1 (.slice (some ⟨g, 0, none⟩) 0 0) 0 [] := ⟨rfl, .inr ⟨g, 0, #[], rfl, hB, hg, Nat.le_refl _, by unfold maxLen; omega, rfl, rfl⟩⟩
  rcases hx with ⟨rfl, rfl⟩ | ⟨ad, cap, rfl, hc⟩
  · exact ⟨_, w, run_append_owned_none (P := Try.prog) (w := w) B _ _ _ i0 1 Try.underlying34 hi _ 0 [] hrow, hrow, Below.refl _ _⟩
  · by_cases hl : l = []
    · subst hl
      have hr := run_append_room (P := Try.prog) w 34 34 5 i0 Try.underlying34 hi g 0 0 #[] hg ad 0 cap [] (by simp) (by simp) (by simp) (by omega) (by simp)
      refine ⟨_, _, hr, ?_, ⟨rfl, rfl, rfl, by simp, fun k hk => ?_⟩⟩
      · refine ⟨rfl, .inr ⟨g, 0, #[], rfl, hB, ?_, Nat.le_refl _, by unfold maxLen; omega, rfl, rfl⟩⟩
        simpa using setRow_heap w g #[] _ 5 _ hg
      · by_cases hkg : k = g
        · subst hkg
          rw [hg]
          simpa using setRow_heap w k #[] _ 5 _ hg
        · exact setRow_other w g k _ hkg
    · have hpos : 0 < l.length := List.length_pos_iff.2 hl
      have hr := run_append_grow (P := Try.prog) w 34 34 5 i0 (.int .u8 0) Try.underlying34 hi hz0 ⟨g, 0, none⟩ 0 0 [] (by simp) (by simp) ad l.length cap (l.map bv) (by simp [hz1]) (cells_bys hc) (by omega) (by omega) (growslice_fits (by omega) (by rw [hz2]; omega))
      refine ⟨_, _, hr, ?_, (Below.refl _ _).drew.alloc (Nat.le_refl _) _⟩
      have hge := grownCap_ge w (0 + l.length) 0 5
      have hge' := grownCap_ge w l.length 0 5
      have hle := grownCap_le_maxLen w (0 + l.length) 0 5 (by unfold maxLen; omega)
      refine ⟨by simp, .inr ⟨w.heap.size, _, _, by rw [Nat.zero_add], by omega, heap_alloc_new w.drew _, by omega, hle, ?_, ?_⟩⟩
      · simp [size_zeroCells]
        simp [Value.cells]
        omega
      · simp


theorem slice_of_row {w : World} {B : Nat} {v : Value} {t : List UInt8} (h : Row w B v t) : ∃ a cap, v = .slice a t.length cap := by
  rcases h.2 with ⟨hv, h0⟩ | ⟨g, cap, cur, hv, _⟩
  · exact ⟨none, 0, by rw [hv, h0]⟩
  · exact ⟨_, _, hv⟩

theorem bv_of (k : Nat) : bv (UInt8.ofNat k) = .int .u8 ((k % 256 : Nat) : Int) := by simp [bv]

end Go.Proofs.Ytgbhfolbkgibfaa

/- Blocks of a call's own: how a walk reads, writes and loads them whole; a walk's world told by what holds of it. -/
namespace Go.Proofs.Ytgbhfolbkgibfaa
set_option maxRecDepth 20000
open Go.RowKit

theorem world_cut {P : Program} {c : Code} {Q : Exit → Act → World → Prop} {a : Act} {W : World} (φ : World → Prop) (h : φ W) (k : ∀ W', φ W' → c.wp P Q a W') : c.wp P Q a W := k W h

theorem still_of_quiet {P : Program} {W : World} {o : Oper} {a : Act} {K : Act → Prop} (h : o.quiet P a (fun w' => w' = W) K) : o.still P a W K := by
  obtain ⟨v, h1, h2⟩ := h
  have h3 := h1 W rfl
  unfold Oper.quietAt at h3
  unfold Oper.still
  generalize (execOp a.eval o).run P W = r at *
  cases r with
  | ok n w' =>
    cases n <;> simp only [Oper.quietUpon] at h3 <;> simp only [Oper.stillUpon]
    case value u => obtain ⟨h4, rfl⟩ := h3; exact ⟨h4, h2⟩
    case skip => obtain ⟨h4, rfl⟩ := h3; exact ⟨h4, h2⟩
    case enter f args => exact ⟨h3.1, v, by rw [← h3.1] at *; exact h3.2, h2⟩
  | halt x w' => simp only [Oper.quietUpon] at h3

theorem wpStill_of_quiet {P : Program} {W : World} {ops : Array Oper} {Q : Act → Prop} : ∀ (l : List Oper) (a : Act), wpQuiet P ops (fun w' => w' = W) Q l a → wpStill P ops W Q l a
  | [], _, h => h
  | o :: r, a, h => by
    unfold wpQuiet at h
    refine wpStill_step fun K hK => ?_
    split
    · rename_i hw
      rw [if_pos hw] at h
      exact still_of_quiet (Oper.quiet_mono (fun a' h' => hK a' (wpStill_of_quiet r a' h')) h)
    · rename_i hw
      rw [if_neg hw] at h
      exact hK _ (wpStill_of_quiet r _ h)

/-- A region that draws its order, whose last operations are in one order; all ahead of them only read. -/
theorem region_tail {P : Program} {id : Nat} {Q : Exit → Act → World → Prop} {a : Act} {w : World} {l : List Oper} (n : Nat) (hm : P.follows .mixedOrders = true) (hB : Region.lexTailB .any l.toArray n = true) (φ : World → Prop) (hφ : φ w.drew)
    (h : ∀ W, φ W → wpQuiet P l.toArray (fun w' => w' = W) (fun a' => wpList P l.toArray Q (l.drop n) a' W) (l.take n) a) : (Code.region id l.toArray true).wp P Q a w :=
  wp_region_still_tail n hm hB (wpStill_of_quiet _ _ (h _ hφ))

/-- A block of the call's own: its cells. -/
def Blk (W : World) (g : Nat) (t : TypeId) (cs : Array Value) : Prop := W.heap[g]? = some (.cells cs t (0, 0))

theorem Blk.below {W W' : World} {g : Nat} {t : TypeId} {cs : Array Value} (h : Blk W g t cs) {B : Nat} (hg : g < B) (hb : Below B W W') : Blk W' g t cs := by
  unfold Blk at *
  rw [hb.block g hg]
  exact h
theorem Blk.lt {W : World} {g : Nat} {t : TypeId} {cs : Array Value} (h : Blk W g t cs) : g < W.heap.size := (Array.getElem?_eq_some_iff.1 h).1
theorem Blk.keep {W W' : World} {g : Nat} {t : TypeId} {cs : Array Value} (h : Blk W g t cs) (hb : Below W.heap.size W W') : Blk W' g t cs := h.below h.lt hb
theorem Blk.new (W : World) (t : TypeId) (cs : Array Value) : Blk (W.alloc (.cells cs t)) W.heap.size t cs := heap_alloc_new W _
theorem Blk.newAt (W : World) (t : TypeId) (xs cs : Array Value) (g : Nat) (hg : g = W.heap.size) (e : xs = cs) : Blk (W.alloc (.cells xs t)) g t cs := by
  subst hg e
  exact heap_alloc_new W _
theorem Blk.alloc {W : World} {g : Nat} {t : TypeId} {cs : Array Value} (h : Blk W g t cs) (o : Obj) : Blk (W.alloc o) g t cs := h.keep ((Below.refl _ _).alloc (Nat.le_refl _) _)
theorem Blk.cell {W : World} {g : Nat} {t : TypeId} {cs : Array Value} (h : Blk W g t cs) (i : Nat) : W.cell? ⟨g, i, none⟩ = cs[i]? := by
  simp [World.cell?, show W.heap[g]? = _ from h]
theorem Blk.frozen {W : World} {g : Nat} {t : TypeId} {cs : Array Value} (h : Blk W g t cs) (i : Nat) : W.frozen? ⟨g, i, none⟩ = false := frozen_of_row W g i cs t h
theorem Blk.set {W : World} {g : Nat} {t : TypeId} {cs : Array Value} (h : Blk W g t cs) (i : Nat) (v : Value) : Blk (W.setCell ⟨g, i, none⟩ v) g t (cs.setIfInBounds i v) := heap_setCell_same W g i cs t v h
theorem Blk.other {W : World} {g : Nat} {t : TypeId} {cs : Array Value} (h : Blk W g t cs) (a : Addr) (v : Value) (hne : g ≠ a.block) : Blk (W.setCell a v) g t cs := by
  unfold Blk at *
  rw [heap_setCell_other W a g v hne]
  exact h

theorem Blk.loads {P : Program} {W : World} {g : Nat} {t : TypeId} {cs : Array Value} (h : Blk W g t cs) (ty : TypeId) (d : TypeDesc) (hu : P.underlying ty = some d)
    (hd : (match d with | .struct _ | .array _ _ => true | _ => false) = true) (hi : (P.info? ty).map (·.size) = some cs.size) : (Instr.loadAt ty (.pointer (some ⟨g, 0, none⟩))).run P W = .ok (.agg cs) W := by
  simp only [Instr.loadAt, Instr.sureAddr, Sem.run_bind, Sem.run_pure, Result.andThen_ok]
  exact run_loadVar_row W g t ty cs (0, 0) d h hu hd hi

theorem Blk.stores {P : Program} {W : World} {g : Nat} {t : TypeId} {old : Array Value} (h : Blk W g t old) (ty : TypeId) (cs : Array Value) (hi : (P.info? ty).map (·.size) = some cs.size) (ho : old.size = cs.size)
    (h1 : cs.all (·.oneCell') = true) : (Instr.storeAt ty (.pointer (some ⟨g, 0, none⟩)) (.agg cs)).run P W = .ok () (W.setRow g cs) := by
  simp only [Instr.storeAt, Instr.sureAddr, Sem.run_bind, Sem.run_pure, Result.andThen_ok]
  exact run_storeVar_row W g t ty old cs h hi ho h1

theorem Blk.row {W : World} {g : Nat} {t : TypeId} {old : Array Value} (h : Blk W g t old) (cs : Array Value) : Blk (W.setRow g cs) g t cs := setRow_heap W g old cs t _ h
end Go.Proofs.Ytgbhfolbkgibfaa

/- What is written is one block that was there, and new ones. -/
namespace Go.Proofs.Ytgbhfolbkgibfaa
set_option maxRecDepth 20000
open Go Go.RowKit

/-- Of the blocks that were there none has turned but, it may be, R. -/
structure Only (R : Nat) (w w' : World) : Prop where
  os : w'.os = w.os
  tape : w'.tape = w.tape
  output : w'.output = w.output
  size : w.heap.size ≤ w'.heap.size
  block : ∀ k, k < w.heap.size → k ≠ R → w'.heap[k]? = w.heap[k]?

theorem Only.refl (R : Nat) (w : World) : Only R w w := ⟨rfl, rfl, rfl, Nat.le_refl _, fun _ _ _ => rfl⟩

theorem Only.trans {R : Nat} {a b c : World} (h : Only R a b) (k : Only R b c) : Only R a c :=
  ⟨k.os.trans h.os, k.tape.trans h.tape, k.output.trans h.output, Nat.le_trans h.size k.size, fun i hi hr => (k.block i (Nat.lt_of_lt_of_le hi h.size) hr).trans (h.block i hi hr)⟩

theorem Only.of_below {R : Nat} {w w' : World} (h : Below w.heap.size w w') : Only R w w' := ⟨h.os, h.tape, h.output, h.size, fun k hk _ => h.block k hk⟩

/-- Below whatever lies ahead of R nothing has turned. -/
theorem Only.below {R B : Nat} {w w' : World} (h : Only R w w') (hB : B ≤ R) (hs : B ≤ w.heap.size) : Below B w w' :=
  ⟨h.os, h.tape, h.output, h.size, fun k hk => h.block k (by omega) (by omega)⟩

theorem Only.drew {R : Nat} {a w : World} (h : Only R a w) : Only R a w.drew := ⟨h.os, h.tape, h.output, h.size, h.block⟩

theorem Only.drewN {R : Nat} {a w : World} (h : Only R a w) (n : Nat) : Only R a (w.drewN n) := ⟨h.os, h.tape, h.output, h.size, h.block⟩

theorem Only.alloc {R : Nat} {a w : World} (h : Only R a w) (o : Obj) : Only R a (w.alloc o) :=
  h.trans ⟨rfl, rfl, rfl, by simp, fun k hk _ => Below.heap_alloc _ _ _ hk⟩

theorem Only.setR {R : Nat} {a w : World} (h : Only R a w) (i : Nat) (u : Value) : Only R a (w.setCell ⟨R, i, none⟩ u) :=
  h.trans ⟨rfl, rfl, rfl, by simp [World.setCell], fun k _ hr => Below.heap_setCell _ _ _ _ hr⟩

theorem Only.setNew {R : Nat} {a w : World} (h : Only R a w) {p : Addr} (hp : a.heap.size ≤ p.block) (u : Value) : Only R a (w.setCell p u) :=
  ⟨h.os, h.tape, h.output, by simpa [World.setCell] using h.size, fun k hk hr => by rw [Below.heap_setCell _ _ _ _ (by omega)]; exact h.block k hk hr⟩

theorem Only.cell {R : Nat} {w w' : World} (h : Only R w w') {p : Addr} (hp : p.block < w.heap.size) (hr : p.block ≠ R) : w'.cell? p = w.cell? p := World.cell?_of_block (w := w) (h.block p.block hp hr)

theorem Only.frozen {R : Nat} {w w' : World} (h : Only R w w') {p : Addr} (hp : p.block < w.heap.size) (hr : p.block ≠ R) : w'.frozen? p = w.frozen? p := World.frozen?_of_block (w := w) (h.block p.block hp hr)

/-- A store into cell i of a block that is known whole. -/
theorem heap_set_same {w : World} {R i : Nat} {cs : Array Value} {t : TypeId} {fr : Nat × Nat} (h : w.heap[R]? = some (.cells cs t fr)) (u : Value) : (w.setCell ⟨R, i, none⟩ u).heap[R]? = some (.cells (cs.setIfInBounds i u) t fr) := by
  simp only [World.setCell, Array.getElem?_modify, h, if_true, Option.map_some]
  rfl

theorem heap_set_other {w : World} {R k i : Nat} (h : k ≠ R) (u : Value) : (w.setCell ⟨R, i, none⟩ u).heap[k]? = w.heap[k]? := Below.heap_setCell _ _ _ _ h

theorem cell_of_heap {w : World} {R i : Nat} {cs : Array Value} {t : TypeId} {fr : Nat × Nat} (h : w.heap[R]? = some (.cells cs t fr)) : w.cell? ⟨R, i, none⟩ = cs[i]? := by
  simp [World.cell?, h]

theorem free_of_heap {w : World} {R i : Nat} {cs : Array Value} {t : TypeId} (h : w.heap[R]? = some (.cells cs t (0, 0))) : w.frozen? ⟨R, i, none⟩ = false := by
  simp [World.frozen?, h]

/-- Of the blocks that were there only those of S may have turned. -/
structure OnlyS (S : Nat → Prop) (w w' : World) : Prop where
  os : w'.os = w.os
  tape : w'.tape = w.tape
  output : w'.output = w.output
  size : w.heap.size ≤ w'.heap.size
  block : ∀ k, k < w.heap.size → ¬ S k → w'.heap[k]? = w.heap[k]?

theorem OnlyS.refl (S : Nat → Prop) (w : World) : OnlyS S w w := ⟨rfl, rfl, rfl, Nat.le_refl _, fun _ _ _ => rfl⟩

theorem OnlyS.trans {S : Nat → Prop} {a b c : World} (h : OnlyS S a b) (k : OnlyS S b c) : OnlyS S a c :=
  ⟨k.os.trans h.os, k.tape.trans h.tape, k.output.trans h.output, Nat.le_trans h.size k.size, fun i hi hr => (k.block i (Nat.lt_of_lt_of_le hi h.size) hr).trans (h.block i hi hr)⟩

/-- Where all that S' names and that was there is in S. -/
theorem OnlyS.mono {S S' : Nat → Prop} {a b : World} (h : OnlyS S' a b) (hS : ∀ k, k < a.heap.size → S' k → S k) : OnlyS S a b :=
  ⟨h.os, h.tape, h.output, h.size, fun i hi hr => h.block i hi fun hs => hr (hS i hi hs)⟩

theorem OnlyS.of_only {S : Nat → Prop} {R : Nat} {w w' : World} (h : Only R w w') (hS : S R) : OnlyS S w w' := ⟨h.os, h.tape, h.output, h.size, fun k hk hs => h.block k hk fun e => hs (e ▸ hS)⟩

theorem OnlyS.of_below {S : Nat → Prop} {B : Nat} {w w' : World} (h : Below B w w') (hB : ∀ k, k < w.heap.size → ¬ S k → k < B) : OnlyS S w w' := ⟨h.os, h.tape, h.output, h.size, fun k hk hs => h.block k (hB k hk hs)⟩

theorem OnlyS.only {S : Nat → Prop} {R : Nat} {w w' : World} (h : OnlyS S w w') (hS : ∀ k, k < w.heap.size → S k → k = R) : Only R w w' := ⟨h.os, h.tape, h.output, h.size, fun k hk hs => h.block k hk fun e => hs (hS k hk e)⟩

theorem OnlyS.below {S : Nat → Prop} {B : Nat} {w w' : World} (h : OnlyS S w w') (hS : ∀ k, k < B → ¬ S k) (hs : B ≤ w.heap.size) : Below B w w' :=
  ⟨h.os, h.tape, h.output, h.size, fun k hk => h.block k (by omega) (hS k hk)⟩

theorem OnlyS.alloc {S : Nat → Prop} {a w : World} (h : OnlyS S a w) (o : Obj) : OnlyS S a (w.alloc o) :=
  h.trans ⟨rfl, rfl, rfl, by simp, fun k hk _ => Below.heap_alloc _ _ _ hk⟩

theorem OnlyS.drew {S : Nat → Prop} {a w : World} (h : OnlyS S a w) : OnlyS S a w.drew := ⟨h.os, h.tape, h.output, h.size, h.block⟩

theorem OnlyS.setCell {S : Nat → Prop} {a w : World} (h : OnlyS S a w) {p : Addr} (hp : p.block < a.heap.size → S p.block) (u : Value) : OnlyS S a (w.setCell p u) :=
  ⟨h.os, h.tape, h.output, by simpa [World.setCell] using h.size, fun k hk hr => by
    have hne : k ≠ p.block := by
      rintro rfl
      exact hr (hp hk)
    rw [Below.heap_setCell _ _ _ _ hne]; exact h.block k hk hr⟩

/-- A second step that may write, of what was there at first, only blocks of S. -/
theorem OnlyS.then {S T : Nat → Prop} {a b c : World} (h : OnlyS S a b) (k : OnlyS T b c) (hT : ∀ i, i < a.heap.size → T i → S i) : OnlyS S a c :=
  ⟨k.os.trans h.os, k.tape.trans h.tape, k.output.trans h.output, Nat.le_trans h.size k.size, fun i hi hr => (k.block i (Nat.lt_of_lt_of_le hi h.size) fun ht => hr (hT i hi ht)).trans (h.block i hi hr)⟩

end Go.Proofs.Ytgbhfolbkgibfaa

