/- Joined: CmdMath, MsgMath, NetMath, Frame. -/
import Derived.Test.YtgbhfolbkgibfaaKAA
import Derived.Test.YtgbhfolbkgibfaaRows
import Derived.WalkKit
import Derived.ProofKit
import Derived.OpenShut
import Derived.ShutString
import Derived.ChangeOld
import Derived.Below
/- Layer 12's entries as plain data: which are formed, their bytes, and how bytes are read. No program is named here. -/
namespace Go.Proofs.Ytgbhfolbkgibfaa.CmdMath
set_option maxRecDepth 20000
open BinMath

/-- An entry: term, kind, client, sequence number, data, members. -/
structure Ent where
  t : Nat
  k : Int
  c : Nat
  s : Nat
  d : List UInt8
  m : List Nat
deriving DecidableEq

def Ent.zero : Ent := ⟨0, 0, 0, 0, [], []⟩

/-- The fields lie in their types' ranges. -/
structure Ent.Ok (e : Ent) : Prop where
  t : e.t < 18446744073709551616
  kl : -9223372036854775808 ≤ e.k
  kh : e.k < 9223372036854775808
  c : e.c < 18446744073709551616
  s : e.s < 18446744073709551616
  m : ∀ x ∈ e.m, x < 18446744073709551616

theorem Ent.Ok.zero : Ent.Ok Ent.zero := ⟨by decide, by decide, by decide, by decide, by decide, by simp [Ent.zero]⟩

/-- Ids that rise from behind a on, none above 7. -/
def rises : Nat → List Nat → Bool
  | _, [] => true
  | a, x :: r => decide (a < x ∧ x ≤ 7) && rises x r

def memOk (m : List Nat) : Bool := !m.isEmpty && rises 0 m

theorem rises_len : ∀ (m : List Nat) (a : Nat), a ≤ 7 → rises a m = true → m.length + a ≤ 7
  | [], a, ha, _ => by simpa using ha
  | x :: r, a, ha, h => by
    simp [rises] at h
    have := rises_len r x h.1.2 h.2
    simp only [List.length_cons]; omega

theorem memOk_len {m : List Nat} (h : memOk m = true) : 1 ≤ m.length ∧ m.length ≤ 7 := by
  simp [memOk] at h
  have := rises_len m 0 (by omega) h.2
  refine ⟨?_, by omega⟩
  cases m with
  | nil => simp at h
  | cons a r => simp

theorem rises_lt : ∀ (m : List Nat) (a : Nat), rises a m = true → ∀ x ∈ m, x ≤ 7
  | [], _, _, x, hx => by simp at hx
  | y :: r, a, h, x, hx => by
    simp [rises] at h
    rcases List.mem_cons.1 hx with rfl | hx
    · exact h.1.2
    · exact rises_lt r y h.2 x hx

def bare (e : Ent) : Bool := decide (e.c = 0) && decide (e.s = 0) && decide (e.d.length = 0)

def termOk (t : Nat) : Bool := decide (1 ≤ t ∧ t ≤ 4611686018427387904)

def formed (e : Ent) : Bool := termOk e.t && (if e.k = 1 then bare e && decide (e.m.length = 0) else if e.k = 2 then decide (e.d.length ≤ 64) && decide (e.m.length = 0) else if e.k = 3 then bare e && memOk e.m else false)

def idsL : List Nat → List UInt8
  | [] => []
  | x :: r => numL x ++ idsL r

theorem idsL_append (a b : List Nat) : idsL (a ++ b) = idsL a ++ idsL b := by
  induction a with
  | nil => rfl
  | cons x r ih => simp [idsL, ih]

def tailL (e : Ent) : List UInt8 := if e.k = 2 then numL e.c ++ (numL e.s ++ (numL e.d.length ++ e.d)) else if e.k = 3 then numL e.m.length ++ idsL e.m else []

/-- The bytes of an entry. -/
def putL (e : Ent) : List UInt8 := numL e.t ++ (UInt8.ofNat (e.k % 256).toNat :: tailL e)

/-! ### Reading: what is read and the rest, or the first fault -/

def gNum (l : List UInt8) : Except Nat (Nat × List UInt8) := match pNum l with
  | .ok (n, u) => .ok (n, l.drop u)
  | .error c => .error c

def gByte : List UInt8 → Except Nat (Nat × List UInt8)
  | [] => .error 2
  | c :: r => .ok (c.toNat, r)

def gText (most : Nat) (l : List UInt8) : Except Nat (List UInt8 × List UInt8) := match pText most l with
  | .ok (t, u) => .ok (t, l.drop u)
  | .error c => .error c

def gIds : Nat → Nat → List UInt8 → Except Nat (List Nat × List UInt8)
  | 0, _, l => .ok ([], l)
  | n + 1, last, l => match gNum l with
    | .error c => .error c
    | .ok (id, r) => if last < id ∧ id ≤ 7 then match gIds n id r with
        | .error c => .error c
        | .ok (ids, q) => .ok (id :: ids, q)
      else .error 3

def gMem (l : List UInt8) : Except Nat (List Nat × List UInt8) := match gNum l with
  | .error c => .error c
  | .ok (n, r) => if 1 ≤ n ∧ n ≤ 7 then gIds n 0 r else .error 3

/-- What stands behind the kind of a put: client, sequence number, data. -/
def gPut (t : Nat) (l : List UInt8) : Except Nat (Ent × List UInt8) := match gNum l with
  | .error x => .error x
  | .ok (c, r) => match gNum r with
    | .error x => .error x
    | .ok (s, r) => match gText 64 r with
      | .error x => .error x
      | .ok (d, r) => .ok (⟨t, 2, c, s, d, []⟩, r)

def gConf (t : Nat) (l : List UInt8) : Except Nat (Ent × List UInt8) := match gMem l with
  | .error x => .error x
  | .ok (m, r) => .ok (⟨t, 3, 0, 0, [], m⟩, r)

def gKind (t : Nat) (l : List UInt8) : Except Nat (Ent × List UInt8) := match gByte l with
  | .error x => .error x
  | .ok (k, r) => if k = 1 then .ok (⟨t, 1, 0, 0, [], []⟩, r) else if k = 2 then gPut t r else if k = 3 then gConf t r else .error 3

def gEnt (l : List UInt8) : Except Nat (Ent × List UInt8) := match gNum l with
  | .error x => .error x
  | .ok (t, r) => if 1 ≤ t ∧ t ≤ 4611686018427387904 then gKind t r else .error 3

/-- What Get answers: the entry and the error. -/
def getR (l : List UInt8) : Ent × Nat := match gEnt l with
  | .error x => (Ent.zero, x)
  | .ok (e, r) => if r = [] then (e, 0) else (Ent.zero, 5)

/-! ### What was laid is read -/

theorem gNum_lay (n : Nat) (r : List UInt8) (hn : n < 18446744073709551616) : gNum (numL n ++ r) = .ok (n, r) := by
  unfold gNum
  rw [pNum_numL n r hn]
  simp only [List.drop_left]

theorem gText_lay (t r : List UInt8) (most : Nat) (hm : t.length ≤ most) (ht : t.length < 18446744073709551616) : gText most (numL t.length ++ (t ++ r)) = .ok (t, r) := by
  unfold gText
  rw [pText_rawL t r ht most hm]
  simp only
  rw [← List.append_assoc, List.drop_left' (by simp)]

theorem gIds_lay : ∀ (m : List Nat) (a : Nat) (r : List UInt8), rises a m = true → gIds m.length a (idsL m ++ r) = .ok (m, r)
  | [], a, r, _ => rfl
  | x :: m, a, r, h => by
    simp [rises] at h
    simp only [List.length_cons, gIds, idsL, List.append_assoc]
    rw [gNum_lay x _ (by omega)]
    simp only
    rw [if_pos h.1, gIds_lay m x r h.2]

theorem gMem_lay (m : List Nat) (r : List UInt8) (h : memOk m = true) : gMem (numL m.length ++ (idsL m ++ r)) = .ok (m, r) := by
  have hl := memOk_len h
  unfold gMem
  rw [gNum_lay _ _ (by omega)]
  simp only
  rw [if_pos hl]
  simp [memOk] at h
  exact gIds_lay m 0 r h.2

theorem gEnt_lay (e : Ent) (hok : e.Ok) (h : formed e = true) (r : List UInt8) : gEnt (putL e ++ r) = .ok (e, r) := by
  obtain ⟨t, k, c, s, d, m⟩ := e
  simp only [formed, Bool.and_eq_true, termOk, decide_eq_true_eq] at h
  obtain ⟨ht, h⟩ := h
  simp only [gEnt, putL, List.append_assoc, List.cons_append]
  rw [gNum_lay _ _ hok.t]
  simp only
  rw [if_pos ht]
  simp only [gKind, gByte]
  by_cases h1 : k = 1
  · subst h1
    rw [if_pos rfl] at h
    simp [bare] at h
    obtain ⟨⟨⟨rfl, rfl⟩, rfl⟩, rfl⟩ := h
    have e1 : (UInt8.ofNat ((1 : Int) % 256).toNat).toNat = 1 := by decide
    simp only [e1, if_pos, tailL]
    simp
  · rw [if_neg h1] at h
    by_cases h2 : k = 2
    · subst h2
      rw [if_pos rfl] at h
      simp at h
      obtain ⟨hd, rfl⟩ := h
      have e1 : (UInt8.ofNat ((2 : Int) % 256).toNat).toNat = 2 := by decide
      simp only [e1, tailL, gPut, List.append_assoc, Nat.reduceEqDiff, ↓reduceIte]
      rw [gNum_lay _ _ hok.c]
      simp only
      rw [gNum_lay _ _ hok.s]
      simp only
      rw [gText_lay d r 64 hd (by omega)]
    · rw [if_neg h2] at h
      by_cases h3 : k = 3
      · subst h3
        rw [if_pos rfl] at h
        simp [bare] at h
        obtain ⟨⟨⟨rfl, rfl⟩, rfl⟩, hm⟩ := h
        have e1 : (UInt8.ofNat ((3 : Int) % 256).toNat).toNat = 3 := by decide
        simp only [e1, tailL, gConf, List.append_assoc, Nat.reduceEqDiff, Int.reduceEq, ↓reduceIte]
        rw [gMem_lay m r hm]
      · rw [if_neg h3] at h
        exact absurd h (by simp)

theorem getR_lay (e : Ent) (hok : e.Ok) (h : formed e = true) : getR (putL e) = (e, 0) := by
  unfold getR
  have := gEnt_lay e hok h []
  rw [List.append_nil] at this
  rw [this]
  simp

/-! ### What is read was laid -/

theorem gNum_back {l r : List UInt8} {n : Nat} (h : gNum l = .ok (n, r)) : n < 18446744073709551616 ∧ l = numL n ++ r := by
  unfold gNum at h
  cases hp : pNum l with
  | error c => rw [hp] at h; cases h
  | ok p =>
    obtain ⟨m, u⟩ := p
    rw [hp] at h
    simp at h
    obtain ⟨rfl, rfl⟩ := h
    exact ⟨(pNum_used hp).2.1, by rw [pNum_back hp, List.take_append_drop]⟩

theorem gByte_back {l r : List UInt8} {n : Nat} (h : gByte l = .ok (n, r)) : n < 256 ∧ l = UInt8.ofNat n :: r := by
  cases l with
  | nil => simp [gByte] at h
  | cons c q =>
    simp [gByte] at h
    obtain ⟨rfl, rfl⟩ := h
    exact ⟨c.toNat_lt, by simp⟩

theorem gText_back {most : Nat} {l t r : List UInt8} (h : gText most l = .ok (t, r)) : t.length ≤ most ∧ l = numL t.length ++ (t ++ r) := by
  unfold gText at h
  cases hp : pText most l with
  | error c => rw [hp] at h; cases h
  | ok p =>
    obtain ⟨m, u⟩ := p
    rw [hp] at h
    simp at h
    obtain ⟨rfl, rfl⟩ := h
    refine ⟨(pText_used hp).2.1, ?_⟩
    unfold pText at hp
    cases hn : pNum l with
    | error c => rw [hn] at hp; cases hp
    | ok p =>
      obtain ⟨n, v⟩ := p
      rw [hn] at hp
      have hu := pNum_used hn
      have hb := pNum_back hn
      simp only at hp
      split at hp
      · cases hp
      · split at hp
        · cases hp
        · rename_i h1 h2
          simp at hp
          obtain ⟨rfl, rfl⟩ := hp
          have el : ((l.drop v).take n).length = n := by simp; omega
          rw [el, hb]
          rw [← List.drop_drop, List.take_append_drop, List.take_append_drop]

theorem gIds_back : ∀ (n a : Nat) (l r : List UInt8) (m : List Nat), gIds n a l = .ok (m, r) → m.length = n ∧ rises a m = true ∧ l = idsL m ++ r
  | 0, a, l, r, m, h => by
    simp [gIds] at h
    obtain ⟨rfl, rfl⟩ := h
    exact ⟨rfl, rfl, rfl⟩
  | n + 1, a, l, r, m, h => by
    simp only [gIds] at h
    cases hn : gNum l with
    | error c => rw [hn] at h; cases h
    | ok p =>
      obtain ⟨x, q⟩ := p
      rw [hn] at h
      obtain ⟨hx, hl⟩ := gNum_back hn
      simp only at h
      split at h
      · rename_i hc
        cases hi : gIds n x q with
        | error c => rw [hi] at h; cases h
        | ok p =>
          obtain ⟨ids, q'⟩ := p
          rw [hi] at h
          simp at h
          obtain ⟨rfl, rfl⟩ := h
          obtain ⟨h1, h2, h3⟩ := gIds_back n x q q' ids hi
          refine ⟨by simp [h1], by simp [rises, hc, h2], ?_⟩
          rw [hl, h3]
          simp [idsL]
      · cases h

theorem gMem_back {l r : List UInt8} {m : List Nat} (h : gMem l = .ok (m, r)) : memOk m = true ∧ l = numL m.length ++ (idsL m ++ r) := by
  unfold gMem at h
  cases hn : gNum l with
  | error c => rw [hn] at h; cases h
  | ok p =>
    obtain ⟨n, q⟩ := p
    rw [hn] at h
    obtain ⟨hx, hl⟩ := gNum_back hn
    simp only at h
    split at h
    · rename_i hc
      obtain ⟨h1, h2, h3⟩ := gIds_back _ _ _ _ _ h
      refine ⟨?_, by rw [hl, h3, h1]⟩
      cases m with
      | nil => simp at h1; omega
      | cons x r => simp [memOk, h2]
    · cases h

theorem gEnt_back {l r : List UInt8} {e : Ent} (h : gEnt l = .ok (e, r)) : e.Ok ∧ formed e = true ∧ l = putL e ++ r := by
  unfold gEnt at h
  cases hn : gNum l with
  | error c => rw [hn] at h; cases h
  | ok p =>
    obtain ⟨t, q⟩ := p
    rw [hn] at h
    obtain ⟨hx, hl⟩ := gNum_back hn
    simp only at h
    split at h
    · rename_i ht
      unfold gKind at h
      cases hb : gByte q with
      | error c => rw [hb] at h; cases h
      | ok p =>
        obtain ⟨k, q'⟩ := p
        rw [hb] at h
        obtain ⟨hk, hq⟩ := gByte_back hb
        simp only at h
        split at h
        · rename_i h1
          simp at h
          obtain ⟨rfl, rfl⟩ := h
          refine ⟨⟨hx, by simp, by simp, by simp, by simp, by simp⟩, by simp [formed, termOk, bare, ht], ?_⟩
          rw [hl, hq, h1]
          simp [putL, tailL]
        · split at h
          · rename_i h1 h2
            unfold gPut at h
            cases hc : gNum q' with
            | error c => rw [hc] at h; cases h
            | ok p =>
              obtain ⟨c, q2⟩ := p
              rw [hc] at h
              obtain ⟨hcx, hcl⟩ := gNum_back hc
              simp only at h
              cases hs : gNum q2 with
              | error c => rw [hs] at h; cases h
              | ok p =>
                obtain ⟨s, q3⟩ := p
                rw [hs] at h
                obtain ⟨hsx, hsl⟩ := gNum_back hs
                simp only at h
                cases hd : gText 64 q3 with
                | error c => rw [hd] at h; cases h
                | ok p =>
                  obtain ⟨d, q4⟩ := p
                  rw [hd] at h
                  obtain ⟨hdx, hdl⟩ := gText_back hd
                  simp at h
                  obtain ⟨rfl, rfl⟩ := h
                  refine ⟨⟨hx, by simp, by simp, hcx, hsx, by simp⟩, by simp [formed, termOk, ht, hdx], ?_⟩
                  rw [hl, hq, h2, hcl, hsl, hdl]
                  simp [putL, tailL]
          · split at h
            · rename_i h1 h2 h3
              unfold gConf at h
              cases hm : gMem q' with
              | error c => rw [hm] at h; cases h
              | ok p =>
                obtain ⟨m, q2⟩ := p
                rw [hm] at h
                obtain ⟨hmo, hml⟩ := gMem_back hm
                simp at h
                obtain ⟨rfl, rfl⟩ := h
                have hmo2 := hmo
                simp [memOk] at hmo2
                refine ⟨⟨hx, by simp, by simp, by simp, by simp, fun x hx => by have := rises_lt m 0 hmo2.2 x hx; omega⟩, by simp [formed, termOk, ht, bare, hmo], ?_⟩
                rw [hl, hq, h3, hml]
                simp [putL, tailL]
            · cases h
    · cases h

theorem gNum_err {l : List UInt8} {c : Nat} (h : gNum l = .error c) : 2 ≤ c ∧ c ≤ 3 := by
  unfold gNum at h
  cases hp : pNum l with
  | error d => rw [hp] at h; cases h; rcases pNum_err hp with h | h <;> omega
  | ok p => rw [hp] at h; cases h

theorem gText_err {most : Nat} {l : List UInt8} {c : Nat} (h : gText most l = .error c) : 2 ≤ c ∧ c ≤ 4 := by
  unfold gText at h
  cases hp : pText most l with
  | ok p => rw [hp] at h; cases h
  | error d =>
    rw [hp] at h; cases h
    unfold pText at hp
    cases hn : pNum l with
    | error d => rw [hn] at hp; cases hp; rcases pNum_err hn with h | h <;> omega
    | ok p =>
      rw [hn] at hp
      simp only at hp
      split at hp
      · cases hp; omega
      · split at hp
        · cases hp; omega
        · cases hp

theorem gIds_err : ∀ (n a : Nat) (l : List UInt8) (c : Nat), gIds n a l = .error c → 2 ≤ c ∧ c ≤ 3
  | 0, a, l, c, h => by simp [gIds] at h
  | n + 1, a, l, c, h => by
    simp only [gIds] at h
    cases hn : gNum l with
    | error d => rw [hn] at h; cases h; exact gNum_err hn
    | ok p =>
      obtain ⟨x, q⟩ := p
      rw [hn] at h
      simp only at h
      split at h
      · cases hi : gIds n x q with
        | error d => rw [hi] at h; cases h; exact gIds_err n x q _ hi
        | ok p => rw [hi] at h; cases h
      · cases h; omega

theorem gMem_err {l : List UInt8} {c : Nat} (h : gMem l = .error c) : 2 ≤ c ∧ c ≤ 3 := by
  unfold gMem at h
  cases hn : gNum l with
  | error d => rw [hn] at h; cases h; exact gNum_err hn
  | ok p =>
    rw [hn] at h
    simp only at h
    split at h
    · exact gIds_err _ _ _ _ h
    · cases h; omega

theorem gEnt_err {l : List UInt8} {c : Nat} (h : gEnt l = .error c) : 2 ≤ c ∧ c ≤ 4 := by
  unfold gEnt at h
  cases hn : gNum l with
  | error d => rw [hn] at h; cases h; have := gNum_err hn; omega
  | ok p =>
    obtain ⟨t, q⟩ := p
    rw [hn] at h
    simp only at h
    split at h
    · unfold gKind at h
      cases hb : gByte q with
      | error d => rw [hb] at h; cases h; cases q <;> simp [gByte] at hb; omega
      | ok p =>
        obtain ⟨k, q'⟩ := p
        rw [hb] at h
        simp only at h
        split at h
        · cases h
        · split at h
          · unfold gPut at h
            cases hc : gNum q' with
            | error d => rw [hc] at h; cases h; have := gNum_err hc; omega
            | ok p =>
              rw [hc] at h
              simp only at h
              cases hs : gNum p.2 with
              | error d => rw [hs] at h; cases h; have := gNum_err hs; omega
              | ok p =>
                rw [hs] at h
                simp only at h
                cases hd : gText 64 p.2 with
                | error d => rw [hd] at h; cases h; exact gText_err hd
                | ok p => rw [hd] at h; cases h
          · split at h
            · unfold gConf at h
              cases hm : gMem q' with
              | error d => rw [hm] at h; cases h; have := gMem_err hm; omega
              | ok p => rw [hm] at h; cases h
            · cases h; omega
    · cases h; omega

theorem getR_back {l : List UInt8} {e : Ent} (h : getR l = (e, 0)) : e.Ok ∧ formed e = true ∧ putL e = l := by
  unfold getR at h
  cases hg : gEnt l with
  | error c => rw [hg] at h; simp at h; have := gEnt_err hg; omega
  | ok p =>
    obtain ⟨f, r⟩ := p
    rw [hg] at h
    simp only at h
    split at h
    · rename_i hr
      simp at h
      subst h hr
      obtain ⟨h1, h2, h3⟩ := gEnt_back hg
      exact ⟨h1, h2, by rw [h3, List.append_nil]⟩
    · simp at h

/-- Whatever is answered: with an error the zero entry, and the numbers' ranges. -/
theorem getR_cases (l : List UInt8) : ((getR l).2 = 0 ∧ (getR l).1.Ok ∧ formed (getR l).1 = true ∧ putL (getR l).1 = l) ∨ ((getR l).2 ≠ 0 ∧ (getR l).2 ≤ 5 ∧ (getR l).1 = Ent.zero) := by
  by_cases h : (getR l).2 = 0
  · left
    have := getR_back (l := l) (e := (getR l).1) (by rw [← h])
    exact ⟨h, this⟩
  · right
    refine ⟨h, ?_⟩
    unfold getR at h ⊢
    cases hg : gEnt l with
    | error c => have := gEnt_err hg; simp; omega
    | ok p =>
      obtain ⟨f, r⟩ := p
      rw [hg] at h
      simp only at h ⊢
      split at h
      · simp at h
      · rename_i hr; rw [if_neg hr]; simp

/-! ### Cut off -/

end Go.Proofs.Ytgbhfolbkgibfaa.CmdMath

/- Layer 18's messages as plain data: which are formed, their bytes, and how bytes are read. No program is named here. -/
namespace Go.Proofs.Ytgbhfolbkgibfaa.MsgMath
set_option maxRecDepth 20000
open BinMath CmdMath

/-- A message: kind, from, to, term, index, the log's term, commit, stamp, yes, entries, members, image. -/
structure Mg where
  k : Int
  f : Nat
  o : Nat
  t : Nat
  i : Nat
  l : Nat
  c : Nat
  s : Nat
  y : Bool
  e : List Ent
  m : List Nat
  g : List UInt8
deriving DecidableEq

def Mg.zero : Mg := ⟨0, 0, 0, 0, 0, 0, 0, 0, false, [], [], []⟩

/-- The fields lie in their types' ranges. -/
structure Mg.Ok (m : Mg) : Prop where
  kl : -9223372036854775808 ≤ m.k
  kh : m.k < 9223372036854775808
  f : m.f < 18446744073709551616
  o : m.o < 18446744073709551616
  t : m.t < 18446744073709551616
  i : m.i < 18446744073709551616
  l : m.l < 18446744073709551616
  c : m.c < 18446744073709551616
  s : m.s < 18446744073709551616
  e : ∀ x ∈ m.e, x.Ok
  m : ∀ x ∈ m.m, x < 18446744073709551616

theorem Mg.Ok.zero : Mg.Ok Mg.zero := ⟨by decide, by decide, by decide, by decide, by decide, by decide, by decide, by decide, by decide, by simp [Mg.zero], by simp [Mg.zero]⟩

/-- A message with the fields of its kind alone. -/
def bareM (m : Mg) : Mg :=
  if m.k = 1 then ⟨m.k, m.f, m.o, m.t, m.i, m.l, 0, 0, false, [], [], []⟩
  else if m.k = 2 then ⟨m.k, m.f, m.o, m.t, 0, 0, 0, 0, m.y, [], [], []⟩
  else if m.k = 3 then ⟨m.k, m.f, m.o, m.t, m.i, m.l, m.c, m.s, false, m.e, [], []⟩
  else if m.k = 4 then ⟨m.k, m.f, m.o, m.t, m.i, 0, 0, m.s, m.y, [], [], []⟩
  else if m.k = 5 then ⟨m.k, m.f, m.o, m.t, m.i, m.l, 0, m.s, false, [], m.m, m.g⟩
  else ⟨m.k, m.f, m.o, m.t, 0, 0, 0, 0, false, [], [], []⟩

abbrev MT : Nat := 4611686018427387904
def nodeOk (n : Nat) : Bool := decide (1 ≤ n ∧ n ≤ 7)
def headOk (m : Mg) : Bool := decide (1 ≤ m.k ∧ m.k ≤ 5) && (nodeOk m.f && (nodeOk m.o && termOk m.t))
def restOk (m : Mg) : Bool := decide (m = bareM m) && (decide (m.i ≤ MT ∧ m.l ≤ MT ∧ m.c ≤ MT) && decide (m.e.length ≤ 4 ∧ m.g.length ≤ 16384))
def formedM (m : Mg) : Bool := headOk m && (restOk m && (m.e.all formed && (decide (m.k ≠ 5) || memOk m.m)))

def entsL : List Ent → List UInt8
  | [] => []
  | x :: r => numL (putL x).length ++ (putL x ++ entsL r)
def flagL (y : Bool) : UInt8 := if y then 1 else 0

def bodyL (m : Mg) : List UInt8 :=
  if m.k = 1 then numL m.i ++ numL m.l
  else if m.k = 2 then [flagL m.y]
  else if m.k = 3 then numL m.i ++ (numL m.l ++ (numL m.c ++ (numL m.s ++ (numL m.e.length ++ entsL m.e))))
  else if m.k = 4 then flagL m.y :: (numL m.i ++ numL m.s)
  else if m.k = 5 then numL m.i ++ (numL m.l ++ (numL m.s ++ (numL m.m.length ++ (idsL m.m ++ (numL m.g.length ++ m.g)))))
  else []

/-- The bytes of a message. -/
def putM (m : Mg) : List UInt8 := UInt8.ofNat (m.k % 256).toNat :: (numL m.f ++ (numL m.o ++ (numL m.t ++ bodyL m)))

/-! ### Reading -/

abbrev Rd (α : Type) := List UInt8 → Except Nat (α × List UInt8)
def retP {α : Type} (x : α) : Rd α := fun l => .ok (x, l)
def failP {α : Type} (c : Nat) : Rd α := fun _ => .error c
def bindP {α β : Type} (p : Rd α) (q : α → Rd β) : Rd β := fun l => match p l with
  | .error c => .error c
  | .ok (x, r) => q x r

theorem bindP_ok {α β : Type} {p : Rd α} {q : α → Rd β} {l r : List UInt8} {x : α} (h : p l = .ok (x, r)) : bindP p q l = q x r := by simp only [bindP, h]
theorem bindP_err {α β : Type} {p : Rd α} {q : α → Rd β} {l : List UInt8} {c : Nat} (h : p l = .error c) : bindP p q l = .error c := by simp only [bindP, h]

/-- What is read of bytes is read of their beginning, or that ends too early. -/
def Pref {α : Type} (p : Rd α) : Prop := ∀ (r s q : List UInt8) (v : α), p (r ++ s) = .ok (v, q) → (∃ q', q = q' ++ s ∧ p r = .ok (v, q')) ∨ p r = .error 2
theorem Pref.ret {α : Type} (x : α) : Pref (retP x) := fun r s q v h => by
  simp only [retP, Except.ok.injEq, Prod.mk.injEq] at h
  exact .inl ⟨r, h.2.symm, by rw [← h.1]; rfl⟩
theorem Pref.fail {α : Type} (c : Nat) : Pref (failP c : Rd α) := fun r s q v h => by cases h
theorem Pref.bind {α β : Type} {p : Rd α} {q : α → Rd β} (hp : Pref p) (hq : ∀ x, Pref (q x)) : Pref (bindP p q) := fun r s u v h => by
  cases hx : p (r ++ s) with
  | error c => rw [bindP_err hx] at h; cases h
  | ok w =>
    obtain ⟨x, t⟩ := w
    rw [bindP_ok hx] at h
    rcases hp r s t x hx with ⟨t', rfl, h1⟩ | h1
    · rw [bindP_ok h1]
      exact hq x t' s u v h
    · exact .inr (bindP_err h1)
/-- A number in a range. -/
def gRange (lo hi : Nat) : Rd Nat := bindP gNum fun n => if lo ≤ n ∧ n ≤ hi then retP n else failP 3
def gYes : Rd Bool := bindP gByte fun c => if c ≤ 1 then retP (decide (c = 1)) else failP 3
def gEnts : Nat → Rd (List Ent)
  | 0 => retP []
  | n + 1 => bindP (gText 128) fun x => if (getR x).2 = 0 then bindP (gEnts n) fun es => retP ((getR x).1 :: es) else failP (getR x).2

def gBody (k f o t : Nat) : Rd Mg :=
  if k = 1 then bindP (gRange 0 MT) fun i => bindP (gRange 0 MT) fun l => retP ⟨1, f, o, t, i, l, 0, 0, false, [], [], []⟩
  else if k = 2 then bindP gYes fun y => retP ⟨2, f, o, t, 0, 0, 0, 0, y, [], [], []⟩
  else if k = 3 then bindP (gRange 0 MT) fun i => bindP (gRange 0 MT) fun l => bindP (gRange 0 MT) fun c => bindP gNum fun s => bindP gNum fun n =>
    if n ≤ 4 then bindP (gEnts n) fun es => retP ⟨3, f, o, t, i, l, c, s, false, es, [], []⟩ else failP 4
  else if k = 4 then bindP gYes fun y => bindP (gRange 0 MT) fun i => bindP gNum fun s => retP ⟨4, f, o, t, i, 0, 0, s, y, [], [], []⟩
  else bindP (gRange 0 MT) fun i => bindP (gRange 0 MT) fun l => bindP gNum fun s => bindP gMem fun m => bindP (gText 16384) fun g => retP ⟨5, f, o, t, i, l, 0, s, false, [], m, g⟩

def gMsg : Rd Mg := bindP gByte fun k => if 1 ≤ k ∧ k ≤ 5 then bindP (gRange 1 7) fun f => bindP (gRange 1 7) fun o => bindP (gRange 1 MT) fun t => gBody k f o t else failP 3

/-- What Get answers. -/
def getM (l : List UInt8) : Mg × Nat := match gMsg l with
  | .error c => (Mg.zero, c)
  | .ok (m, r) => if r = [] then (m, 0) else (Mg.zero, 5)

/-! ### What was laid is read -/

theorem gRange_lay {lo hi n : Nat} (r : List UInt8) (h1 : lo ≤ n) (h2 : n ≤ hi) (hn : n < 18446744073709551616) : gRange lo hi (numL n ++ r) = .ok (n, r) := by
  rw [gRange, bindP_ok (gNum_lay n r hn), if_pos ⟨h1, h2⟩]
  rfl
theorem gYes_lay (y : Bool) (r : List UInt8) : gYes (flagL y :: r) = .ok (y, r) := by
  cases y <;> rfl
theorem gByte_lay {k : Nat} (h : k < 256) (r : List UInt8) : gByte (UInt8.ofNat k :: r) = .ok (k, r) := by
  simp [gByte]
  omega

/-- An entry's bytes are few. -/
theorem idsL_len : ∀ (m : List Nat), (∀ x ∈ m, x < 18446744073709551616) → (idsL m).length ≤ 9 * m.length
  | [], _ => by simp [idsL]
  | x :: r, h => by
    have h1 := idsL_len r fun y hy => h y (by simp [hy])
    have h2 := nb_le x (h x (by simp))
    rw [idsL, List.length_append, numL_length, List.length_cons]
    omega
theorem putL_len (e : Ent) (hok : e.Ok) (h : formed e = true) : (putL e).length ≤ 128 := by
  have h1 := nb_le e.t hok.t
  have h2 := nb_le e.c hok.c
  have h3 := nb_le e.s hok.s
  have h4 : (tailL e).length ≤ 110 := by
    unfold tailL
    unfold formed at h
    rw [Bool.and_eq_true] at h
    split
    · rename_i hk
      rw [if_neg (by omega), if_pos hk, Bool.and_eq_true] at h
      have hd : e.d.length ≤ 64 := of_decide_eq_true h.2.1
      have h5 := nb_le e.d.length (by omega)
      simp only [List.length_append, numL_length]
      omega
    · split
      · rename_i hk2 hk
        rw [if_neg (by omega), if_neg hk2, if_pos hk, Bool.and_eq_true] at h
        have hm := memOk_len h.2.2
        have h5 := nb_le e.m.length (by omega)
        have h6 := idsL_len e.m hok.m
        simp only [List.length_append, numL_length]
        omega
      · simp
  rw [putL, List.length_append, List.length_cons, numL_length]
  omega

theorem gEnts_lay : ∀ (es : List Ent) (r : List UInt8), (∀ x ∈ es, x.Ok) → es.all formed = true → gEnts es.length (entsL es ++ r) = .ok (es, r)
  | [], r, _, _ => rfl
  | e :: es, r, hok, hf => by
    rw [List.all_cons, Bool.and_eq_true] at hf
    have he := hok e (by simp)
    have h1 := putL_len e he hf.1
    have h2 := gText_lay (putL e) (entsL es ++ r) 128 h1 (by omega)
    rw [List.length_cons, gEnts, entsL, List.append_assoc, List.append_assoc, bindP_ok h2, getR_lay e he hf.1]
    simp only [if_pos]
    rw [bindP_ok (gEnts_lay es r (fun x hx => hok x (by simp [hx])) hf.2)]
    rfl

theorem kind_cases {k : Int} (h : 1 ≤ k ∧ k ≤ 5) : k = 1 ∨ k = 2 ∨ k = 3 ∨ k = 4 ∨ k = 5 := by omega

theorem gMsg_lay (m : Mg) (hok : m.Ok) (h : formedM m = true) (r : List UInt8) : gMsg (putM m ++ r) = .ok (m, r) := by
  simp only [formedM, headOk, restOk, nodeOk, termOk, Bool.and_eq_true, decide_eq_true_eq] at h
  obtain ⟨⟨hk, hf, ho, ht⟩, ⟨hb, ⟨hi, hl, hc⟩, he4, hg⟩, hall, hmem⟩ := h
  have hkn : (m.k % 256).toNat = m.k.toNat := by omega
  have e0 : gMsg (putM m ++ r) = gBody m.k.toNat m.f m.o m.t (bodyL m ++ r) := by
    rw [gMsg, putM, hkn, List.cons_append, bindP_ok (gByte_lay (by omega) _), if_pos (by omega), List.append_assoc, bindP_ok (gRange_lay _ hf.1 hf.2 hok.f), List.append_assoc, bindP_ok (gRange_lay _ ho.1 ho.2 hok.o), List.append_assoc, bindP_ok (gRange_lay _ ht.1 ht.2 hok.t)]
  rw [e0]
  obtain ⟨k, f, o, t, i, l, c, s, y, e, mm, g⟩ := m
  simp only at hk hb hi hl hc he4 hg hall hmem ⊢
  rcases kind_cases hk with rfl | rfl | rfl | rfl | rfl
  · simp only [bareM, if_pos, Mg.mk.injEq, true_and] at hb
    obtain ⟨rfl, rfl, rfl, rfl, rfl, rfl⟩ := hb
    simp only [gBody, bodyL, if_pos, show ((1 : Int).toNat = 1) from rfl, List.append_assoc]
    rw [bindP_ok (gRange_lay _ (Nat.zero_le _) hi hok.i), bindP_ok (gRange_lay _ (Nat.zero_le _) hl hok.l)]
    rfl
  · simp only [bareM, if_pos, Mg.mk.injEq, true_and, if_neg (show ¬ (2 : Int) = 1 by decide)] at hb
    obtain ⟨rfl, rfl, rfl, rfl, rfl, rfl, rfl⟩ := hb
    simp only [gBody, bodyL, if_pos, show ((2 : Int).toNat = 2) from rfl, if_neg (show ¬ (2 : Int) = 1 by decide), if_neg (show ¬ (2 : Nat) = 1 by decide), List.cons_append, List.nil_append]
    rw [bindP_ok (gYes_lay y r)]
    rfl
  · simp only [bareM, if_pos, Mg.mk.injEq, true_and, if_neg (show ¬ (3 : Int) = 1 by decide), if_neg (show ¬ (3 : Int) = 2 by decide)] at hb
    obtain ⟨rfl, rfl, rfl⟩ := hb
    simp only [gBody, bodyL, if_pos, show ((3 : Int).toNat = 3) from rfl, if_neg (show ¬ (3 : Int) = 1 by decide), if_neg (show ¬ (3 : Int) = 2 by decide), if_neg (show ¬ (3 : Nat) = 1 by decide), if_neg (show ¬ (3 : Nat) = 2 by decide), List.append_assoc]
    rw [bindP_ok (gRange_lay _ (Nat.zero_le _) hi hok.i), bindP_ok (gRange_lay _ (Nat.zero_le _) hl hok.l), bindP_ok (gRange_lay _ (Nat.zero_le _) hc hok.c), bindP_ok (gNum_lay s _ hok.s), bindP_ok (gNum_lay e.length _ (by omega)), if_pos he4, bindP_ok (gEnts_lay e r hok.e hall)]
    rfl
  · simp only [bareM, if_pos, Mg.mk.injEq, true_and, if_neg (show ¬ (4 : Int) = 1 by decide), if_neg (show ¬ (4 : Int) = 2 by decide), if_neg (show ¬ (4 : Int) = 3 by decide)] at hb
    obtain ⟨rfl, rfl, rfl, rfl, rfl⟩ := hb
    simp only [gBody, bodyL, if_pos, show ((4 : Int).toNat = 4) from rfl, if_neg (show ¬ (4 : Int) = 1 by decide), if_neg (show ¬ (4 : Int) = 2 by decide), if_neg (show ¬ (4 : Int) = 3 by decide), if_neg (show ¬ (4 : Nat) = 1 by decide), if_neg (show ¬ (4 : Nat) = 2 by decide), if_neg (show ¬ (4 : Nat) = 3 by decide), List.cons_append, List.append_assoc]
    rw [bindP_ok (gYes_lay y _), bindP_ok (gRange_lay _ (Nat.zero_le _) hi hok.i), bindP_ok (gNum_lay s _ hok.s)]
    rfl
  · simp only [bareM, if_pos, Mg.mk.injEq, true_and, if_neg (show ¬ (5 : Int) = 1 by decide), if_neg (show ¬ (5 : Int) = 2 by decide), if_neg (show ¬ (5 : Int) = 3 by decide), if_neg (show ¬ (5 : Int) = 4 by decide)] at hb
    obtain ⟨rfl, rfl, rfl, -⟩ := hb
    have hmo : memOk mm = true := by simpa using hmem
    simp only [gBody, bodyL, if_pos, show ((5 : Int).toNat = 5) from rfl, if_neg (show ¬ (5 : Int) = 1 by decide), if_neg (show ¬ (5 : Int) = 2 by decide), if_neg (show ¬ (5 : Int) = 3 by decide), if_neg (show ¬ (5 : Int) = 4 by decide), if_neg (show ¬ (5 : Nat) = 1 by decide), if_neg (show ¬ (5 : Nat) = 2 by decide), if_neg (show ¬ (5 : Nat) = 3 by decide), if_neg (show ¬ (5 : Nat) = 4 by decide), List.append_assoc]
    rw [bindP_ok (gRange_lay _ (Nat.zero_le _) hi hok.i), bindP_ok (gRange_lay _ (Nat.zero_le _) hl hok.l), bindP_ok (gNum_lay s _ hok.s), bindP_ok (gMem_lay mm _ hmo), bindP_ok (gText_lay g r 16384 hg (by omega))]
    rfl

theorem getM_lay (m : Mg) (hok : m.Ok) (h : formedM m = true) : getM (putM m) = (m, 0) := by
  have e := gMsg_lay m hok h []
  rw [List.append_nil] at e
  unfold getM
  rw [e]
  simp
/-! ### What is read was laid -/

theorem bindP_back {α β : Type} {p : Rd α} {q : α → Rd β} {l r : List UInt8} {v : β} (h : bindP p q l = .ok (v, r)) : ∃ x t, p l = .ok (x, t) ∧ q x t = .ok (v, r) := by
  cases hx : p l with
  | error c => rw [bindP_err hx] at h; cases h
  | ok w =>
    obtain ⟨x, t⟩ := w
    rw [bindP_ok hx] at h
    exact ⟨x, t, rfl, h⟩
theorem retP_back {α : Type} {x v : α} {l r : List UInt8} (h : retP x l = .ok (v, r)) : v = x ∧ r = l := by
  simp only [retP, Except.ok.injEq, Prod.mk.injEq] at h
  exact ⟨h.1.symm, h.2.symm⟩
theorem ite_back {α : Type} {c : Prop} [Decidable c] {p : Rd α} {k : Nat} {l r : List UInt8} {v : α} (h : (if c then p else failP k) l = .ok (v, r)) : c ∧ p l = .ok (v, r) := by
  by_cases hc : c
  · rw [if_pos hc] at h; exact ⟨hc, h⟩
  · rw [if_neg hc] at h; cases h
/-! ### The first fault -/

end Go.Proofs.Ytgbhfolbkgibfaa.MsgMath

/- Layer 19 as plain data: messages under way, and ways that are blocked. No program is named here. -/
namespace Go.Proofs.Ytgbhfolbkgibfaa.NetMath
set_option maxRecDepth 20000
open CmdMath MsgMath

/-- Messages in their order, and ways that are blocked. -/
structure Nt where
  L : List Mg
  W : List (Nat × Nat)

def Nt.none : Nt := ⟨[], []⟩
def Nt.blocked (n : Nt) (a b : Nat) : Bool := decide ((a, b) ∈ n.W)
def blockW (ws : List (Nat × Nat)) (a b : Nat) (yes : Bool) : List (Nat × Nat) := ws.filter (fun x => decide (x ≠ (a, b))) ++ if yes then [(a, b)] else []
def Nt.block (n : Nt) (a b : Nat) (yes : Bool) : Nt := ⟨n.L, blockW n.W a b yes⟩
/-- What Send answers, and what it leaves. -/
def Nt.send (n : Nt) (m : Mg) : Nat × Nt :=
  if formedM m = false then (1, n) else if n.blocked m.f m.o = true then (6, n) else if 256 ≤ n.L.length then (7, n) else (0, ⟨n.L ++ [m], n.W⟩)
/-- What At answers. -/
def Nt.at_ (n : Nt) (i : Int) : Mg × Nat := if h : 0 ≤ i ∧ i.toNat < n.L.length then (n.L[i.toNat]'h.2, 0) else (Mg.zero, 9)
def Nt.take (n : Nt) (i : Int) : Nt := if 0 ≤ i ∧ i.toNat < n.L.length then ⟨n.L.eraseIdx i.toNat, n.W⟩ else n
def Nt.twice (n : Nt) (i : Int) : Nat × Nt :=
  if h : 0 ≤ i ∧ i.toNat < n.L.length then if 256 ≤ n.L.length then (7, n) else (0, ⟨n.L ++ [n.L[i.toNat]'h.2], n.W⟩) else (9, n)

end Go.Proofs.Ytgbhfolbkgibfaa.NetMath

/- What every law's proof begins and ends with: an argument that came in, read again behind a call that wrote nothing that was there. -/
namespace Go.Proofs.Ytgbhfolbkgibfaa
set_option maxRecDepth 20000
open Go.ChangeShapes Go.WideShapes Go.ChangeAt Go.RowKit

theorem own : ownKnob Try.prog.godebug = none := by kernel_rfl
theorem laidOut : laidOutB Try.prog = true := by kernel_rfl

/-- A slice of integers that came in: it is nil; or it leads to a row of cap cells, the numbers zs, the first len of which are its elements; each fits its kind. -/
def IsRow (k : IntKind) (w : World) (a : Option Addr) (len cap : Nat) (zs : List Int) : Prop :=
  (a = none ∧ len = 0 ∧ cap = 0 ∧ zs = []) ∨
  ∃ x, a = some x ∧ len ≤ cap ∧ cap ≤ maxLen ∧ zs.length = cap ∧ (∀ i, i < zs.length → w.cell? (x.add i) = some (.int k (zs.getD i 0))) ∧ ∀ n ∈ zs, (Lit.int k n).wf = true

end Go.Proofs.Ytgbhfolbkgibfaa

