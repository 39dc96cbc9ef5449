/- Joined: CmdMath, CmdKit, CmdRead, CmdMembers, CmdConcat. -/
import Derived.Test.YtidapdooiibfnaaHA
import Derived.Test.YtidapdooiibfnaaHD
import Derived.BigQuiet
import Derived.JoinedCond
import Derived.Deep.QuietTactic
import Derived.Lib.AppendZerosOnto
import Derived.Great.BuildSlice
/- Layer 12's entries as plain data: which are formed, their bytes, and how bytes are read. No program is named here. -/
namespace Go.Proofs.Ytidapdooiibfnaa.CmdMath
set_option maxRecDepth 20000
open BinMath

/-- An entry: term, kind, client, sequence number, data, members. -/
structure Ent where
  t : Nat
  k : Int
  c : Nat
  s : Nat
  d : List UInt8
  m : List Nat
deriving DecidableEq

def Ent.zero : Ent := ⟨0, 0, 0, 0, [], []⟩

/-- The fields lie in their types' ranges. -/
structure Ent.Ok (e : Ent) : Prop where
  t : e.t < 18446744073709551616
  kl : -9223372036854775808 ≤ e.k
  kh : e.k < 9223372036854775808
  c : e.c < 18446744073709551616
  s : e.s < 18446744073709551616
  m : ∀ x ∈ e.m, x < 18446744073709551616

theorem Ent.Ok.zero : Ent.Ok Ent.zero := ⟨by decide, by decide, by decide, by decide, by decide, by simp [Ent.zero]⟩

/-- Ids that rise from behind a on, none above 7. -/
def rises : Nat → List Nat → Bool
  | _, [] => true
  | a, x :: r => decide (a < x ∧ x ≤ 7) && rises x r

def memOk (m : List Nat) : Bool := !m.isEmpty && rises 0 m

theorem rises_len : ∀ (m : List Nat) (a : Nat), a ≤ 7 → rises a m = true → m.length + a ≤ 7
  | [], a, ha, _ => by simpa using ha
  | x :: r, a, ha, h => by
    simp [rises] at h
    have := rises_len r x h.1.2 h.2
    simp only [List.length_cons]; omega

theorem memOk_len {m : List Nat} (h : memOk m = true) : 1 ≤ m.length ∧ m.length ≤ 7 := by
  simp [memOk] at h
  have := rises_len m 0 (by omega) h.2
  refine ⟨?_, by omega⟩
  cases m with
  | nil => simp at h
  | cons a r => simp

theorem rises_lt : ∀ (m : List Nat) (a : Nat), rises a m = true → ∀ x ∈ m, x ≤ 7
  | [], _, _, x, hx => by simp at hx
  | y :: r, a, h, x, hx => by
    simp [rises] at h
    rcases List.mem_cons.1 hx with rfl | hx
    · exact h.1.2
    · exact rises_lt r y h.2 x hx

def bare (e : Ent) : Bool := decide (e.c = 0) && decide (e.s = 0) && decide (e.d.length = 0)

def termOk (t : Nat) : Bool := decide (1 ≤ t ∧ t ≤ 4611686018427387904)

def formed (e : Ent) : Bool := termOk e.t && (if e.k = 1 then bare e && decide (e.m.length = 0) else if e.k = 2 then decide (e.d.length ≤ 64) && decide (e.m.length = 0) else if e.k = 3 then bare e && memOk e.m else false)

def idsL : List Nat → List UInt8
  | [] => []
  | x :: r => numL x ++ idsL r

theorem idsL_append (a b : List Nat) : idsL (a ++ b) = idsL a ++ idsL b := by
  induction a with
  | nil => rfl
  | cons x r ih => simp [idsL, ih]

def tailL (e : Ent) : List UInt8 := if e.k = 2 then numL e.c ++ (numL e.s ++ (numL e.d.length ++ e.d)) else if e.k = 3 then numL e.m.length ++ idsL e.m else []

/-- The bytes of an entry. -/
def putL (e : Ent) : List UInt8 := numL e.t ++ (UInt8.ofNat (e.k % 256).toNat :: tailL e)

/-! ### Reading: what is read and the rest, or the first fault -/

def gNum (l : List UInt8) : Except Nat (Nat × List UInt8) := match pNum l with
  | .ok (n, u) => .ok (n, l.drop u)
  | .error c => .error c

def gByte : List UInt8 → Except Nat (Nat × List UInt8)
  | [] => .error 2
  | c :: r => .ok (c.toNat, r)

def gText (most : Nat) (l : List UInt8) : Except Nat (List UInt8 × List UInt8) := match pText most l with
  | .ok (t, u) => .ok (t, l.drop u)
  | .error c => .error c

def gIds : Nat → Nat → List UInt8 → Except Nat (List Nat × List UInt8)
  | 0, _, l => .ok ([], l)
  | n + 1, last, l => match gNum l with
    | .error c => .error c
    | .ok (id, r) => if last < id ∧ id ≤ 7 then match gIds n id r with
        | .error c => .error c
        | .ok (ids, q) => .ok (id :: ids, q)
      else .error 3

def gMem (l : List UInt8) : Except Nat (List Nat × List UInt8) := match gNum l with
  | .error c => .error c
  | .ok (n, r) => if 1 ≤ n ∧ n ≤ 7 then gIds n 0 r else .error 3

/-- What stands behind the kind of a put: client, sequence number, data. -/
def gPut (t : Nat) (l : List UInt8) : Except Nat (Ent × List UInt8) := match gNum l with
  | .error x => .error x
  | .ok (c, r) => match gNum r with
    | .error x => .error x
    | .ok (s, r) => match gText 64 r with
      | .error x => .error x
      | .ok (d, r) => .ok (⟨t, 2, c, s, d, []⟩, r)

def gConf (t : Nat) (l : List UInt8) : Except Nat (Ent × List UInt8) := match gMem l with
  | .error x => .error x
  | .ok (m, r) => .ok (⟨t, 3, 0, 0, [], m⟩, r)

def gKind (t : Nat) (l : List UInt8) : Except Nat (Ent × List UInt8) := match gByte l with
  | .error x => .error x
  | .ok (k, r) => if k = 1 then .ok (⟨t, 1, 0, 0, [], []⟩, r) else if k = 2 then gPut t r else if k = 3 then gConf t r else .error 3

def gEnt (l : List UInt8) : Except Nat (Ent × List UInt8) := match gNum l with
  | .error x => .error x
  | .ok (t, r) => if 1 ≤ t ∧ t ≤ 4611686018427387904 then gKind t r else .error 3

/-- What Get answers: the entry and the error. -/
def getR (l : List UInt8) : Ent × Nat := match gEnt l with
  | .error x => (Ent.zero, x)
  | .ok (e, r) => if r = [] then (e, 0) else (Ent.zero, 5)

/-! ### What was laid is read -/

theorem gNum_lay (n : Nat) (r : List UInt8) (hn : n < 18446744073709551616) : gNum (numL n ++ r) = .ok (n, r) := by
  unfold gNum
  rw [pNum_numL n r hn]
  simp only [List.drop_left]

theorem gText_lay (t r : List UInt8) (most : Nat) (hm : t.length ≤ most) (ht : t.length < 18446744073709551616) : gText most (numL t.length ++ (t ++ r)) = .ok (t, r) := by
  unfold gText
  rw [pText_rawL t r ht most hm]
  simp only
  rw [← List.append_assoc, List.drop_left' (by simp)]

theorem gIds_lay : ∀ (m : List Nat) (a : Nat) (r : List UInt8), rises a m = true → gIds m.length a (idsL m ++ r) = .ok (m, r)
  | [], a, r, _ => rfl
  | x :: m, a, r, h => by
    simp [rises] at h
    simp only [List.length_cons, gIds, idsL, List.append_assoc]
    rw [gNum_lay x _ (by omega)]
    simp only
    rw [if_pos h.1, gIds_lay m x r h.2]

theorem gMem_lay (m : List Nat) (r : List UInt8) (h : memOk m = true) : gMem (numL m.length ++ (idsL m ++ r)) = .ok (m, r) := by
  have hl := memOk_len h
  unfold gMem
  rw [gNum_lay _ _ (by omega)]
  simp only
  rw [if_pos hl]
  simp [memOk] at h
  exact gIds_lay m 0 r h.2

theorem gEnt_lay (e : Ent) (hok : e.Ok) (h : formed e = true) (r : List UInt8) : gEnt (putL e ++ r) = .ok (e, r) := by
  obtain ⟨t, k, c, s, d, m⟩ := e
  simp only [formed, Bool.and_eq_true, termOk, decide_eq_true_eq] at h
  obtain ⟨ht, h⟩ := h
  simp only [gEnt, putL, List.append_assoc, List.cons_append]
  rw [gNum_lay _ _ hok.t]
  simp only
  rw [if_pos ht]
  simp only [gKind, gByte]
  by_cases h1 : k = 1
  · subst h1
    rw [if_pos rfl] at h
    simp [bare] at h
    obtain ⟨⟨⟨rfl, rfl⟩, rfl⟩, rfl⟩ := h
    have e1 : (UInt8.ofNat ((1 : Int) % 256).toNat).toNat = 1 := by decide
    simp only [e1, if_pos, tailL]
    simp
  · rw [if_neg h1] at h
    by_cases h2 : k = 2
    · subst h2
      rw [if_pos rfl] at h
      simp at h
      obtain ⟨hd, rfl⟩ := h
      have e1 : (UInt8.ofNat ((2 : Int) % 256).toNat).toNat = 2 := by decide
      simp only [e1, tailL, gPut, List.append_assoc, Nat.reduceEqDiff, ↓reduceIte]
      rw [gNum_lay _ _ hok.c]
      simp only
      rw [gNum_lay _ _ hok.s]
      simp only
      rw [gText_lay d r 64 hd (by omega)]
    · rw [if_neg h2] at h
      by_cases h3 : k = 3
      · subst h3
        rw [if_pos rfl] at h
        simp [bare] at h
        obtain ⟨⟨⟨rfl, rfl⟩, rfl⟩, hm⟩ := h
        have e1 : (UInt8.ofNat ((3 : Int) % 256).toNat).toNat = 3 := by decide
        simp only [e1, tailL, gConf, List.append_assoc, Nat.reduceEqDiff, Int.reduceEq, ↓reduceIte]
        rw [gMem_lay m r hm]
      · rw [if_neg h3] at h
        exact absurd h (by simp)

theorem getR_lay (e : Ent) (hok : e.Ok) (h : formed e = true) : getR (putL e) = (e, 0) := by
  unfold getR
  have := gEnt_lay e hok h []
  rw [List.append_nil] at this
  rw [this]
  simp

/-! ### What is read was laid -/

theorem gNum_back {l r : List UInt8} {n : Nat} (h : gNum l = .ok (n, r)) : n < 18446744073709551616 ∧ l = numL n ++ r := by
  unfold gNum at h
  cases hp : pNum l with
  | error c => rw [hp] at h; cases h
  | ok p =>
    obtain ⟨m, u⟩ := p
    rw [hp] at h
    simp at h
    obtain ⟨rfl, rfl⟩ := h
    exact ⟨(pNum_used hp).2.1, by rw [pNum_back hp, List.take_append_drop]⟩

theorem gByte_back {l r : List UInt8} {n : Nat} (h : gByte l = .ok (n, r)) : n < 256 ∧ l = UInt8.ofNat n :: r := by
  cases l with
  | nil => simp [gByte] at h
  | cons c q =>
    simp [gByte] at h
    obtain ⟨rfl, rfl⟩ := h
    exact ⟨c.toNat_lt, by simp⟩

theorem gText_back {most : Nat} {l t r : List UInt8} (h : gText most l = .ok (t, r)) : t.length ≤ most ∧ l = numL t.length ++ (t ++ r) := by
  unfold gText at h
  cases hp : pText most l with
  | error c => rw [hp] at h; cases h
  | ok p =>
    obtain ⟨m, u⟩ := p
    rw [hp] at h
    simp at h
    obtain ⟨rfl, rfl⟩ := h
    refine ⟨(pText_used hp).2.1, ?_⟩
    unfold pText at hp
    cases hn : pNum l with
    | error c => rw [hn] at hp; cases hp
    | ok p =>
      obtain ⟨n, v⟩ := p
      rw [hn] at hp
      have hu := pNum_used hn
      have hb := pNum_back hn
      simp only at hp
      split at hp
      · cases hp
      · split at hp
        · cases hp
        · rename_i h1 h2
          simp at hp
          obtain ⟨rfl, rfl⟩ := hp
          have el : ((l.drop v).take n).length = n := by simp; omega
          rw [el, hb]
          rw [← List.drop_drop, List.take_append_drop, List.take_append_drop]

theorem gIds_back : ∀ (n a : Nat) (l r : List UInt8) (m : List Nat), gIds n a l = .ok (m, r) → m.length = n ∧ rises a m = true ∧ l = idsL m ++ r
  | 0, a, l, r, m, h => by
    simp [gIds] at h
    obtain ⟨rfl, rfl⟩ := h
    exact ⟨rfl, rfl, rfl⟩
  | n + 1, a, l, r, m, h => by
    simp only [gIds] at h
    cases hn : gNum l with
    | error c => rw [hn] at h; cases h
    | ok p =>
      obtain ⟨x, q⟩ := p
      rw [hn] at h
      obtain ⟨hx, hl⟩ := gNum_back hn
      simp only at h
      split at h
      · rename_i hc
        cases hi : gIds n x q with
        | error c => rw [hi] at h; cases h
        | ok p =>
          obtain ⟨ids, q'⟩ := p
          rw [hi] at h
          simp at h
          obtain ⟨rfl, rfl⟩ := h
          obtain ⟨h1, h2, h3⟩ := gIds_back n x q q' ids hi
          refine ⟨by simp [h1], by simp [rises, hc, h2], ?_⟩
          rw [hl, h3]
          simp [idsL]
      · cases h

theorem gMem_back {l r : List UInt8} {m : List Nat} (h : gMem l = .ok (m, r)) : memOk m = true ∧ l = numL m.length ++ (idsL m ++ r) := by
  unfold gMem at h
  cases hn : gNum l with
  | error c => rw [hn] at h; cases h
  | ok p =>
    obtain ⟨n, q⟩ := p
    rw [hn] at h
    obtain ⟨hx, hl⟩ := gNum_back hn
    simp only at h
    split at h
    · rename_i hc
      obtain ⟨h1, h2, h3⟩ := gIds_back _ _ _ _ _ h
      refine ⟨?_, by rw [hl, h3, h1]⟩
      cases m with
      | nil => simp at h1; omega
      | cons x r => simp [memOk, h2]
    · cases h

theorem gEnt_back {l r : List UInt8} {e : Ent} (h : gEnt l = .ok (e, r)) : e.Ok ∧ formed e = true ∧ l = putL e ++ r := by
  unfold gEnt at h
  cases hn : gNum l with
  | error c => rw [hn] at h; cases h
  | ok p =>
    obtain ⟨t, q⟩ := p
    rw [hn] at h
    obtain ⟨hx, hl⟩ := gNum_back hn
    simp only at h
    split at h
    · rename_i ht
      unfold gKind at h
      cases hb : gByte q with
      | error c => rw [hb] at h; cases h
      | ok p =>
        obtain ⟨k, q'⟩ := p
        rw [hb] at h
        obtain ⟨hk, hq⟩ := gByte_back hb
        simp only at h
        split at h
        · rename_i h1
          simp at h
          obtain ⟨rfl, rfl⟩ := h
          refine ⟨⟨hx, by simp, by simp, by simp, by simp, by simp⟩, by simp [formed, termOk, bare, ht], ?_⟩
          rw [hl, hq, h1]
          simp [putL, tailL]
        · split at h
          · rename_i h1 h2
            unfold gPut at h
            cases hc : gNum q' with
            | error c => rw [hc] at h; cases h
            | ok p =>
              obtain ⟨c, q2⟩ := p
              rw [hc] at h
              obtain ⟨hcx, hcl⟩ := gNum_back hc
              simp only at h
              cases hs : gNum q2 with
              | error c => rw [hs] at h; cases h
              | ok p =>
                obtain ⟨s, q3⟩ := p
                rw [hs] at h
                obtain ⟨hsx, hsl⟩ := gNum_back hs
                simp only at h
                cases hd : gText 64 q3 with
                | error c => rw [hd] at h; cases h
                | ok p =>
                  obtain ⟨d, q4⟩ := p
                  rw [hd] at h
                  obtain ⟨hdx, hdl⟩ := gText_back hd
                  simp at h
                  obtain ⟨rfl, rfl⟩ := h
                  refine ⟨⟨hx, by simp, by simp, hcx, hsx, by simp⟩, by simp [formed, termOk, ht, hdx], ?_⟩
                  rw [hl, hq, h2, hcl, hsl, hdl]
                  simp [putL, tailL]
          · split at h
            · rename_i h1 h2 h3
              unfold gConf at h
              cases hm : gMem q' with
              | error c => rw [hm] at h; cases h
              | ok p =>
                obtain ⟨m, q2⟩ := p
                rw [hm] at h
                obtain ⟨hmo, hml⟩ := gMem_back hm
                simp at h
                obtain ⟨rfl, rfl⟩ := h
                have hmo2 := hmo
                simp [memOk] at hmo2
                refine ⟨⟨hx, by simp, by simp, by simp, by simp, fun x hx => by have := rises_lt m 0 hmo2.2 x hx; omega⟩, by simp [formed, termOk, ht, bare, hmo], ?_⟩
                rw [hl, hq, h3, hml]
                simp [putL, tailL]
            · cases h
    · cases h

theorem gNum_err {l : List UInt8} {c : Nat} (h : gNum l = .error c) : 2 ≤ c ∧ c ≤ 3 := by
  unfold gNum at h
  cases hp : pNum l with
  | error d => rw [hp] at h; cases h; rcases pNum_err hp with h | h <;> omega
  | ok p => rw [hp] at h; cases h

theorem gText_err {most : Nat} {l : List UInt8} {c : Nat} (h : gText most l = .error c) : 2 ≤ c ∧ c ≤ 4 := by
  unfold gText at h
  cases hp : pText most l with
  | ok p => rw [hp] at h; cases h
  | error d =>
    rw [hp] at h; cases h
    unfold pText at hp
    cases hn : pNum l with
    | error d => rw [hn] at hp; cases hp; rcases pNum_err hn with h | h <;> omega
    | ok p =>
      rw [hn] at hp
      simp only at hp
      split at hp
      · cases hp; omega
      · split at hp
        · cases hp; omega
        · cases hp

theorem gIds_err : ∀ (n a : Nat) (l : List UInt8) (c : Nat), gIds n a l = .error c → 2 ≤ c ∧ c ≤ 3
  | 0, a, l, c, h => by simp [gIds] at h
  | n + 1, a, l, c, h => by
    simp only [gIds] at h
    cases hn : gNum l with
    | error d => rw [hn] at h; cases h; exact gNum_err hn
    | ok p =>
      obtain ⟨x, q⟩ := p
      rw [hn] at h
      simp only at h
      split at h
      · cases hi : gIds n x q with
        | error d => rw [hi] at h; cases h; exact gIds_err n x q _ hi
        | ok p => rw [hi] at h; cases h
      · cases h; omega

theorem gMem_err {l : List UInt8} {c : Nat} (h : gMem l = .error c) : 2 ≤ c ∧ c ≤ 3 := by
  unfold gMem at h
  cases hn : gNum l with
  | error d => rw [hn] at h; cases h; exact gNum_err hn
  | ok p =>
    rw [hn] at h
    simp only at h
    split at h
    · exact gIds_err _ _ _ _ h
    · cases h; omega

theorem gEnt_err {l : List UInt8} {c : Nat} (h : gEnt l = .error c) : 2 ≤ c ∧ c ≤ 4 := by
  unfold gEnt at h
  cases hn : gNum l with
  | error d => rw [hn] at h; cases h; have := gNum_err hn; omega
  | ok p =>
    obtain ⟨t, q⟩ := p
    rw [hn] at h
    simp only at h
    split at h
    · unfold gKind at h
      cases hb : gByte q with
      | error d => rw [hb] at h; cases h; cases q <;> simp [gByte] at hb; omega
      | ok p =>
        obtain ⟨k, q'⟩ := p
        rw [hb] at h
        simp only at h
        split at h
        · cases h
        · split at h
          · unfold gPut at h
            cases hc : gNum q' with
            | error d => rw [hc] at h; cases h; have := gNum_err hc; omega
            | ok p =>
              rw [hc] at h
              simp only at h
              cases hs : gNum p.2 with
              | error d => rw [hs] at h; cases h; have := gNum_err hs; omega
              | ok p =>
                rw [hs] at h
                simp only at h
                cases hd : gText 64 p.2 with
                | error d => rw [hd] at h; cases h; exact gText_err hd
                | ok p => rw [hd] at h; cases h
          · split at h
            · unfold gConf at h
              cases hm : gMem q' with
              | error d => rw [hm] at h; cases h; have := gMem_err hm; omega
              | ok p => rw [hm] at h; cases h
            · cases h; omega
    · cases h; omega

theorem getR_back {l : List UInt8} {e : Ent} (h : getR l = (e, 0)) : e.Ok ∧ formed e = true ∧ putL e = l := by
  unfold getR at h
  cases hg : gEnt l with
  | error c => rw [hg] at h; simp at h; have := gEnt_err hg; omega
  | ok p =>
    obtain ⟨f, r⟩ := p
    rw [hg] at h
    simp only at h
    split at h
    · rename_i hr
      simp at h
      subst h hr
      obtain ⟨h1, h2, h3⟩ := gEnt_back hg
      exact ⟨h1, h2, by rw [h3, List.append_nil]⟩
    · simp at h

/-- Whatever is answered: with an error the zero entry, and the numbers' ranges. -/
theorem getR_cases (l : List UInt8) : ((getR l).2 = 0 ∧ (getR l).1.Ok ∧ formed (getR l).1 = true ∧ putL (getR l).1 = l) ∨ ((getR l).2 ≠ 0 ∧ (getR l).2 ≤ 5 ∧ (getR l).1 = Ent.zero) := by
  by_cases h : (getR l).2 = 0
  · left
    have := getR_back (l := l) (e := (getR l).1) (by rw [← h])
    exact ⟨h, this⟩
  · right
    refine ⟨h, ?_⟩
    unfold getR at h ⊢
    cases hg : gEnt l with
    | error c => have := gEnt_err hg; simp; omega
    | ok p =>
      obtain ⟨f, r⟩ := p
      rw [hg] at h
      simp only at h ⊢
      split at h
      · simp at h
      · rename_i hr; rw [if_neg hr]; simp

/-! ### Cut off -/

theorem digs_pref : ∀ (m : Nat) (first : Bool) (acc : Nat) (r s : List UInt8) (n : Nat), digs m first acc (r ++ s) = .ok n → digs m first acc r = .ok n ∨ digs m first acc r = .error 2
  | 0, _, _, _, _, _, h => .inl (by simpa [digs] using h)
  | m + 1, _, _, [], _, _, _ => .inr rfl
  | m + 1, first, acc, c :: r, s, n, h => by
    simp only [List.cons_append, digs] at h ⊢
    split at h
    · cases h
    · rename_i hc
      rw [if_neg hc]
      exact digs_pref m false _ r s n h

theorem gNum_pref {r s q : List UInt8} {v : Nat} (h : gNum (r ++ s) = .ok (v, q)) : (∃ q', q = q' ++ s ∧ gNum r = .ok (v, q')) ∨ gNum r = .error 2 := by
  unfold gNum at h ⊢
  cases r with
  | nil => right; rfl
  | cons k r =>
    simp only [List.cons_append, pNum] at h ⊢
    split at h
    · rename_i n u hp
      split at hp
      · cases hp
      · rename_i hk
        rw [if_neg hk]
        cases hd : digs k.toNat true 0 (r ++ s) with
        | error c => rw [hd] at hp; cases hp
        | ok x =>
          rw [hd] at hp
          simp at hp h
          obtain ⟨rfl, rfl⟩ := hp
          rcases digs_pref _ _ _ _ _ _ hd with h1 | h1
          · left
            have hu := digs_used _ _ _ _ _ h1
            rw [h1]
            refine ⟨r.drop k.toNat, ?_, ?_⟩
            · rw [← h.2, List.drop_succ_cons, List.drop_append_of_le_length hu]
            · simp [h.1]
          · right; rw [h1]
    · cases h

theorem gByte_pref {r s q : List UInt8} {v : Nat} (h : gByte (r ++ s) = .ok (v, q)) : (∃ q', q = q' ++ s ∧ gByte r = .ok (v, q')) ∨ gByte r = .error 2 := by
  cases r with
  | nil => right; rfl
  | cons k r =>
    simp [gByte] at h
    left
    exact ⟨r, h.2.symm, by simp [gByte, h.1]⟩

theorem gText_of {most : Nat} {l r : List UInt8} {n : Nat} (h : gNum l = .ok (n, r)) : gText most l = if most < n then .error 4 else if r.length < n then .error 2 else .ok (r.take n, r.drop n) := by
  unfold gNum at h
  unfold gText pText
  cases hp : pNum l with
  | error c => rw [hp] at h; cases h
  | ok p =>
    obtain ⟨m, u⟩ := p
    rw [hp] at h
    simp at h
    obtain ⟨rfl, rfl⟩ := h
    simp only [List.length_drop]
    split
    · rename_i t u' he
      split at he
      · cases he
      · split at he
        · cases he
        · simp at he
          obtain ⟨rfl, rfl⟩ := he
          rename_i h1 h2
          rw [if_neg h1, if_neg h2, List.drop_drop]
    · rename_i c he
      split at he
      · rename_i h1; cases he; rw [if_pos h1]
      · rename_i h1
        split at he
        · rename_i h2; cases he; rw [if_neg h1, if_pos h2]
        · cases he

theorem gText_pref {most : Nat} {r s q t : List UInt8} (h : gText most (r ++ s) = .ok (t, q)) : (∃ q', q = q' ++ s ∧ gText most r = .ok (t, q')) ∨ gText most r = .error 2 := by
  cases hn : gNum (r ++ s) with
  | error c =>
    unfold gText pText at h
    unfold gNum at hn
    cases hp : pNum (r ++ s) with
    | error d => rw [hp] at h; cases h
    | ok p => rw [hp] at hn; cases hn
  | ok p =>
    obtain ⟨n, u⟩ := p
    rw [gText_of hn] at h
    rcases gNum_pref hn with ⟨q', hq, h1⟩ | h1
    · rw [gText_of h1]
      split at h
      · cases h
      · rename_i hm
        rw [if_neg hm]
        split at h
        · cases h
        · rename_i hl
          split
          · right; rfl
          · rename_i hl2
            left
            simp at h
            subst hq
            refine ⟨q'.drop n, ?_, ?_⟩
            · rw [← h.2, List.drop_append_of_le_length (by omega)]
            · rw [← h.1, List.take_append_of_le_length (by omega)]
    · right
      unfold gText pText
      unfold gNum at h1
      cases hp : pNum r with
      | error d => rw [hp] at h1; simpa using h1
      | ok p => rw [hp] at h1; cases h1

theorem gIds_pref : ∀ (n a : Nat) (r s q : List UInt8) (m : List Nat), gIds n a (r ++ s) = .ok (m, q) → (∃ q', q = q' ++ s ∧ gIds n a r = .ok (m, q')) ∨ gIds n a r = .error 2
  | 0, a, r, s, q, m, h => by
    simp [gIds] at h
    left
    exact ⟨r, h.2.symm, by simp [gIds, h.1]⟩
  | n + 1, a, r, s, q, m, h => by
    simp only [gIds] at h ⊢
    cases hn : gNum (r ++ s) with
    | error c => rw [hn] at h; cases h
    | ok p =>
      obtain ⟨x, u⟩ := p
      rw [hn] at h
      simp only at h
      rcases gNum_pref hn with ⟨q', hq, h1⟩ | h1
      · rw [h1]
        simp only
        split at h
        · rename_i hc
          rw [if_pos hc]
          subst hq
          cases hi : gIds n x (q' ++ s) with
          | error c => rw [hi] at h; cases h
          | ok p =>
            obtain ⟨ids, q2⟩ := p
            rw [hi] at h
            simp at h
            rcases gIds_pref n x q' s q2 ids hi with ⟨q3, e3, h3⟩ | h3
            · left
              rw [h3]
              exact ⟨q3, by rw [← h.2, e3], by simp [h.1]⟩
            · right; rw [h3]
        · cases h
      · right; rw [h1]

theorem gMem_pref {r s q : List UInt8} {m : List Nat} (h : gMem (r ++ s) = .ok (m, q)) : (∃ q', q = q' ++ s ∧ gMem r = .ok (m, q')) ∨ gMem r = .error 2 := by
  unfold gMem at h ⊢
  cases hn : gNum (r ++ s) with
  | error c => rw [hn] at h; cases h
  | ok p =>
    obtain ⟨x, u⟩ := p
    rw [hn] at h
    simp only at h
    rcases gNum_pref hn with ⟨q', hq, h1⟩ | h1
    · rw [h1]
      simp only
      split at h
      · rename_i hc
        rw [if_pos hc]
        subst hq
        exact gIds_pref _ _ _ _ _ _ h
      · cases h
    · right; rw [h1]

end Go.Proofs.Ytidapdooiibfnaa.CmdMath

/- Layer 12's entries in memory: slices of numbers, the six fields, entries that are handed over. -/
namespace Go.Proofs.Ytidapdooiibfnaa
set_option maxRecDepth 20000
open Go.RowKit BinMath CmdMath

theorem ownsRow_to {w w' : World} {B e s : Nat} {v : Value} {n : Nat} {xs : List Value} (h : w.ownsRow B e s v n xs) (hk : ∀ k, v.ownBlock = some k → w'.heap[k]? = w.heap[k]?) : w'.ownsRow B e s v n xs := by
  obtain ⟨h1, h2⟩ := h
  refine ⟨h1, h2.elim .inl fun ⟨g, cap, cur, hv, hB, hg, r⟩ => .inr ⟨g, cap, cur, hv, hB, ?_, r⟩⟩
  rw [hk g (by rw [hv]; rfl)]
  exact hg

theorem ownsRow_keep {w w' : World} {B e s : Nat} {v : Value} {n : Nat} {xs : List Value} (h : w.ownsRow B e s v n xs) (hb : Below w.heap.size w w') : w'.ownsRow B e s v n xs :=
  ownsRow_to h fun k hk => hb.block k (World.ownsRow.lt h k hk).2

/-- A row and a block of another type are apart. -/
theorem ownsRow_apart {w : World} {B e s g t : Nat} {v : Value} {n : Nat} {xs : List Value} {cs : Array Value} (h : w.ownsRow B e s v n xs) (hg : Blk w g t cs) (hne : e ≠ t) : v.ownBlock ≠ some g := by
  rcases h.2 with ⟨rfl, _⟩ | ⟨k, cap, cur, rfl, hB, hk, _⟩
  · simp [Value.ownBlock]
  · simp only [Value.ownBlock]
    intro he
    obtain rfl : k = g := by simpa using he
    unfold Blk at hg
    rw [hg] at hk
    have h := Option.some.inj hk
    injection h with _ h
    exact hne h.symm

theorem Blk.grown {w w' : World} {B e s g t : Nat} {v : Value} {n : Nat} {xs : List Value} {cs : Array Value} (hg : Blk w g t cs) (h : w.ownsRow B e s v n xs) (hne : e ≠ t) (hgr : w.grownBy w' v.ownBlock) : Blk w' g t cs := by
  have h1 := ownsRow_apart h hg hne
  have hlt := hg.lt
  unfold Blk at *
  rw [hgr.block g hlt (fun e => h1 e.symm)]
  exact hg

/-- A number as a cell holds it. -/
def uv (n : Nat) : Value := .int .u64 (n : Int)

theorem info_num : (Try.prog.info? 22).map (fun i => (i.zero, i.size, i.bytes)) = some (some (.int .u64 0), 1, 8) := by kernel_rfl

/-- A slice of numbers, wherever it lies. -/
def Nums (w : World) (v : Value) (l : List Nat) : Prop :=
  (v = .slice none 0 0 ∧ l = []) ∨
  ∃ ad cap, v = .slice (some ad) l.length cap ∧ l.length ≤ cap ∧ ∀ i (h : i < l.length), w.cell? (ad.add i) = some (.int .u64 (l[i] : Int))

/-- A slice of numbers of the call's own, from block B on. -/
def NRow (w : World) (B : Nat) (v : Value) (l : List Nat) : Prop := w.ownsRow B 22 1 v l.length (l.map uv)

theorem Nums.below {w w' : World} {v : Value} {l : List Nat} (h : Nums w v l) {B : Nat} (hB : w.heap.size ≤ B) (hb : Below B w w') : Nums w' v l := by
  rcases h with h | ⟨ad, cap, hv, hl, hc⟩
  · exact .inl h
  · exact .inr ⟨ad, cap, hv, hl, fun i hi => by
      have h1 := hc i hi
      rw [hb.cell (p := ad.add i) (Nat.lt_of_lt_of_le (World.block_lt_of_cell? w _ h1) hB)]
      exact h1⟩

theorem NRow.nums {w : World} {B : Nat} {v : Value} {l : List Nat} (h : NRow w B v l) : Nums w v l := by
  have h0 := h
  rcases h.2 with ⟨rfl, hl⟩ | ⟨g, cap, cur, rfl, hB, hg, hn, hm, hs, ht⟩
  · exact .inl ⟨rfl, List.eq_nil_of_length_eq_zero hl⟩
  · refine .inr ⟨⟨g, 0, none⟩, cap, rfl, hn, fun i hi => ?_⟩
    rw [addr_add, Nat.zero_add, World.ownsRow.cellAt h0 i (by omega)]
    simp [uv, hi]

theorem Nums.shape {w : World} {v : Value} {l : List Nat} (h : Nums w v l) : ∃ a cap, v = .slice a l.length cap := by
  rcases h with ⟨rfl, rfl⟩ | ⟨ad, cap, rfl, _⟩
  · exact ⟨_, _, rfl⟩
  · exact ⟨_, _, rfl⟩

theorem Bys.shape {w : World} {v : Value} {l : List UInt8} (h : Bys w v l) : ∃ a cap, v = .slice a l.length cap := by
  rcases h with ⟨rfl, rfl⟩ | ⟨ad, cap, rfl, _⟩
  · exact ⟨_, _, rfl⟩
  · exact ⟨_, _, rfl⟩

theorem Nums.at {w : World} {a : Option Addr} {n cap : Nat} {l : List Nat} (h : Nums w (.slice a n cap) l) : n = l.length ∧ l.length ≤ cap ∧ ∀ i (h : i < l.length), ∃ ad, a = some ad ∧ w.cell? (ad.add i) = some (.int .u64 (l[i] : Int)) := by
  rcases h with ⟨h, rfl⟩ | ⟨ad, c, h, hl, hc⟩
  · cases h; exact ⟨rfl, by simp, fun i hi => by simp at hi⟩
  · cases h; exact ⟨rfl, hl, fun i hi => ⟨ad, rfl, hc i hi⟩⟩

theorem nums_of (zs : List Int) (h : ∀ n ∈ zs, (Lit.int .u64 n).wf = true) : ∃ l : List Nat, zs = l.map (fun c : Nat => (c : Int)) ∧ ∀ x ∈ l, x < 18446744073709551616 := by
  induction zs with
  | nil => exact ⟨[], rfl, by simp⟩
  | cons z zs ih =>
    obtain ⟨l, hl, hb⟩ := ih fun n hn => h n (List.mem_cons_of_mem _ hn)
    have hz := bounds_u64 (h z (by simp))
    refine ⟨z.toNat :: l, ?_, ?_⟩
    · simp [← hl]; omega
    · intro x hx
      rcases List.mem_cons.1 hx with rfl | hx
      · omega
      · exact hb x hx

/-- What came in. -/
theorem IsRow.nums {w : World} {a : Option Addr} {len cap : Nat} {zs : List Int} (h : IsRow .u64 w a len cap zs) : ∃ l : List Nat, l.length = len ∧ (∀ x ∈ l, x < 18446744073709551616) ∧ Nums w (.slice a len cap) l := by
  rcases h with ⟨rfl, rfl, rfl, rfl⟩ | ⟨ad, rfl, hl, hm, hz, hc, hw⟩
  · exact ⟨[], rfl, by simp, .inl ⟨rfl, rfl⟩⟩
  · obtain ⟨l, rfl, hb⟩ := nums_of zs hw
    have hll : l.length = cap := by simpa using hz
    have e : (l.take len).length = len := by rw [List.length_take]; omega
    refine ⟨l.take len, e, fun x hx => hb x (List.mem_of_mem_take hx), .inr ⟨ad, cap, by rw [e], by omega, fun i hi => ?_⟩⟩
    have hi' : i < l.length := by rw [e] at hi; omega
    rw [hc i (by simpa using hi')]
    simp [hi']

/-- The six fields. -/
def entC (e : Ent) (a : Option Addr) (ca : Nat) (b : Option Addr) (cb : Nat) : Array Value :=
  #[.int .u64 (e.t : Int), .int .i64 e.k, .int .u64 (e.c : Int), .int .u64 (e.s : Int), .slice a e.d.length ca, .slice b e.m.length cb]

/-- What an entry's fields lead to, and their ranges. -/
structure Has (w : World) (e : Ent) (a : Option Addr) (ca : Nat) (b : Option Addr) (cb : Nat) : Prop where
  ok : e.Ok
  d : Bys w (.slice a e.d.length ca) e.d
  m : Nums w (.slice b e.m.length cb) e.m
  dl : e.d.length ≤ 140737488351232
  ml : e.m.length ≤ 140737488351232

theorem Has.below {w w' : World} {e : Ent} {a b : Option Addr} {ca cb : Nat} (h : Has w e a ca b cb) {B : Nat} (hB : w.heap.size ≤ B) (hb : Below B w w') : Has w' e a ca b cb :=
  ⟨h.ok, h.d.below hB hb, h.m.below hB hb, h.dl, h.ml⟩

theorem Has.zero (w : World) : Has w Ent.zero none 0 none 0 := ⟨Ent.Ok.zero, .inl ⟨rfl, rfl⟩, .inl ⟨rfl, rfl⟩, by decide, by decide⟩

theorem isTerm_any (n : Nat) (w : World) (hn : n < 18446744073709551616) : Calls Try.prog 90 #[.int .u64 (n : Int)] w fun e w' => e = .returned (.bool (decide (1 ≤ n ∧ n ≤ 4611686018427387904))) ∧ w' = w := by
  by_cases h1 : 1 ≤ n
  · go_enter Try.func90, Try.ntmps90
    go_wp2
    go_ret
    exact ⟨congrArg (fun b => Ending.returned (Value.bool b)) (decide_eq_decide.2 (by omega)), rfl⟩
  · have e : decide (1 ≤ n ∧ n ≤ 4611686018427387904) = false := by simp [h1]
    rw [e]
    go_enter Try.func90, Try.ntmps90
    go_wp2
    go_ret
    exact ⟨rfl, rfl⟩

theorem isCount_any (n : Nat) (w : World) (hn : n < 18446744073709551616) : Calls Try.prog 62 #[.int .u64 (n : Int)] w fun e w' => e = .returned (.bool (decide (1 ≤ n ∧ n ≤ 7))) ∧ w' = w := by
  by_cases h1 : 1 ≤ n
  · go_enter Try.func62, Try.ntmps62
    go_wp2
    go_ret
    exact ⟨congrArg (fun b => Ending.returned (Value.bool b)) (decide_eq_decide.2 (by omega)), rfl⟩
  · have e : decide (1 ≤ n ∧ n ≤ 7) = false := by simp [h1]
    rw [e]
    go_enter Try.func62, Try.ntmps62
    go_wp2
    go_ret
    exact ⟨rfl, rfl⟩

theorem isNext_any (a n : Nat) (w : World) (hn : n < 18446744073709551616) : Calls Try.prog 63 #[.int .u64 (a : Int), .int .u64 (n : Int)] w fun e w' => e = .returned (.bool (decide (a < n ∧ n ≤ 7))) ∧ w' = w := by
  by_cases h1 : a < n
  · go_enter Try.func63, Try.ntmps63
    go_wp2
    go_ret
    exact ⟨congrArg (fun b => Ending.returned (Value.bool b)) (decide_eq_decide.2 (by omega)), rfl⟩
  · have e : decide (a < n ∧ n ≤ 7) = false := by simp [h1]
    rw [e]
    go_enter Try.func63, Try.ntmps63
    go_wp2
    go_ret
    exact ⟨rfl, rfl⟩

theorem conv_len (k : Nat) (hk : k < 9223372036854775808) (W : World) : (convert 3 22 (.int .i64 (k : Int))).run Try.prog W = .ok (.int .u64 (k : Int)) W := by
  have hp : Try.prog.intKind 22 = .u64 := by kernel_rfl
  have h := run_convert_int (P := Try.prog) W 3 22 .i64 (k : Int) (by kernel_rfl) (by rw [hp]; exact Try.underlying22)
  rw [hp] at h
  rw [h, IntKind.wrap_u64]
  congr 2
  omega

end Go.Proofs.Ytidapdooiibfnaa

/- Reading, by what is left: the readers' calls; giving up. -/
namespace Go.Proofs.Ytidapdooiibfnaa
set_option maxRecDepth 20000
open Go.RowKit BinMath CmdMath
variable {G : Nat}

/-- What a reading of an entry that gives up panics with. -/
abbrev lostC (c : Nat) : List PanicEntry := gaveUp (c : Int)

theorem must_ok (w : World) : Calls Try.prog 32 #[.int .i64 0] w fun e w' => e = .returned (.tuple #[]) ∧ w' = w := quit_ok w

theorem must_bad (c : Nat) (w : World) (hc : c ≠ 0) : Calls Try.prog 32 #[.int .i64 (c : Int)] w fun e w' => e = .panicked (lostC c) ∧ w' = w := quit_bad c (by omega) w

theorem ask_yes (w : World) : Calls Try.prog 111 #[.bool true] w fun e w' => e = .returned (.tuple #[]) ∧ w' = w := by
  go_enter Try.func111, Try.ntmps111
  go_wp2
  exact ⟨rfl, .tuple #[], by simp [results, Try.results111, go_sem], rfl, rfl⟩

theorem ask_no (w : World) : Calls Try.prog 111 #[.bool false] w fun e w' => e = .panicked (lostC 3) ∧ w' = w := by
  go_enter Try.func111, Try.ntmps111
  go_wp2_with fail
  refine (must_bad 3 _ (by decide)).mono ?_
  rintro e w' ⟨rfl, rfl⟩
  exact ⟨rfl, rfl, rfl⟩

theorem takeNum_ok (n : Nat) (w : World) : Calls Try.prog 98 #[.int .u64 (n : Int), .int .i64 0] w fun e w' => e = .returned (.int .u64 (n : Int)) ∧ w' = w := by
  go_enter Try.func98, Try.ntmps98
  go_wp2_with fail
  refine (must_ok _).mono ?_
  rintro e w' ⟨rfl, rfl⟩
  go_wp2
  go_ret
  exact ⟨rfl, rfl⟩

theorem takeNum_bad (n : Nat) (c : Nat) (w : World) (hc : c ≠ 0) : Calls Try.prog 98 #[.int .u64 (n : Int), .int .i64 (c : Int)] w fun e w' => e = .panicked (lostC c) ∧ w' = w := by
  have HM := Lib.hid (fun w => must_bad c w hc)
  clear hc
  go_enter Try.func98, Try.ntmps98
  go_wp2_with fail
  refine (HM.out _).mono ?_
  rintro e w' ⟨rfl, rfl⟩
  exact ⟨rfl, rfl, rfl⟩

theorem takeByte_ok (n : Nat) (w : World) : Calls Try.prog 100 #[.int .u8 (n : Int), .int .i64 0] w fun e w' => e = .returned (.int .u8 (n : Int)) ∧ w' = w := by
  go_enter Try.func100, Try.ntmps100
  go_wp2_with fail
  refine (must_ok _).mono ?_
  rintro e w' ⟨rfl, rfl⟩
  go_wp2
  go_ret
  exact ⟨rfl, rfl⟩

theorem takeByte_bad (n : Nat) (c : Nat) (w : World) (hc : c ≠ 0) : Calls Try.prog 100 #[.int .u8 (n : Int), .int .i64 (c : Int)] w fun e w' => e = .panicked (lostC c) ∧ w' = w := by
  have HM := Lib.hid (fun w => must_bad c w hc)
  clear hc
  go_enter Try.func100, Try.ntmps100
  go_wp2_with fail
  refine (HM.out _).mono ?_
  rintro e w' ⟨rfl, rfl⟩
  exact ⟨rfl, rfl, rfl⟩

theorem takeRaw_ok (v : Value) (w : World) : Calls Try.prog 83 #[v, .int .i64 0] w fun e w' => e = .returned (v) ∧ w' = w := by
  go_enter Try.func83, Try.ntmps83
  go_wp2_with fail
  refine (must_ok _).mono ?_
  rintro e w' ⟨rfl, rfl⟩
  go_wp2
  go_ret
  exact ⟨rfl, rfl⟩

theorem takeRaw_bad (v : Value) (c : Nat) (w : World) (hc : c ≠ 0) : Calls Try.prog 83 #[v, .int .i64 (c : Int)] w fun e w' => e = .panicked (lostC c) ∧ w' = w := by
  have HM := Lib.hid (fun w => must_bad c w hc)
  clear hc
  go_enter Try.func83, Try.ntmps83
  go_wp2_with fail
  refine (HM.out _).mono ?_
  rintro e w' ⟨rfl, rfl⟩
  exact ⟨rfl, rfl, rfl⟩

/-- A reader that isn't stuck, and the bytes that it has ahead of it. -/
def At (w : World) (R G : Nat) (l r : List UInt8) : Prop := ∃ k, IsRd w R G l k 0 ∧ r = l.drop k

/-- The reference's. -/
def RAt (w : World) (Q G : Nat) (a : Option Addr) (cap : Nat) (l r : List UInt8) : Prop := ∃ k, IsRef w Q G a cap l k 0 ∧ r = l.drop k

theorem gNum_pNum {l q : List UInt8} {k n : Nat} (h : gNum (l.drop k) = .ok (n, q)) : ∃ u, numS l k 0 = (n, 0, k + u) ∧ q = l.drop (k + u) := by
  unfold gNum at h
  unfold numS
  simp only [ne_eq, not_true_eq_false, if_false]
  cases hp : pNum (l.drop k) with
  | error c => rw [hp] at h; cases h
  | ok p =>
    obtain ⟨m, u⟩ := p
    rw [hp] at h
    simp at h
    obtain ⟨rfl, rfl⟩ := h
    exact ⟨u, rfl, by rw [← List.drop_drop]⟩

theorem gNum_bad {l : List UInt8} {k c : Nat} (h : gNum (l.drop k) = .error c) : numS l k 0 = (0, c, k) := by
  unfold gNum at h
  unfold numS
  simp only [ne_eq, not_true_eq_false, if_false]
  cases hp : pNum (l.drop k) with
  | error d => rw [hp] at h; cases h; rfl
  | ok p => rw [hp] at h; cases h

theorem gByte_ok {l q : List UInt8} {k n : Nat} (h : gByte (l.drop k) = .ok (n, q)) : byteS l k 0 = (n, 0, k + 1) ∧ q = l.drop (k + 1) := by
  unfold byteS
  simp only [ne_eq, not_true_eq_false, if_false]
  cases hp : l.drop k with
  | nil => rw [hp] at h; cases h
  | cons c r =>
    rw [hp] at h
    simp [gByte] at h
    obtain ⟨rfl, rfl⟩ := h
    refine ⟨rfl, ?_⟩
    rw [← List.drop_drop, hp]
    rfl

theorem gByte_bad {l : List UInt8} {k c : Nat} (h : gByte (l.drop k) = .error c) : byteS l k 0 = (0, c, k) := by
  unfold byteS
  simp only [ne_eq, not_true_eq_false, if_false]
  cases hp : l.drop k with
  | nil => rw [hp] at h; simp [gByte] at h; rw [← h]
  | cons c r => rw [hp] at h; cases h

theorem gText_ok {l q t : List UInt8} {k most : Nat} (h : gText most (l.drop k) = .ok (t, q)) : ∃ u, textS l most k 0 = (t, 0, k + u) ∧ q = l.drop (k + u) := by
  unfold gText at h
  unfold textS
  simp only [ne_eq, not_true_eq_false, if_false]
  cases hp : pText most (l.drop k) with
  | error c => rw [hp] at h; cases h
  | ok p =>
    obtain ⟨m, u⟩ := p
    rw [hp] at h
    simp at h
    obtain ⟨rfl, rfl⟩ := h
    exact ⟨u, rfl, by rw [← List.drop_drop]⟩

theorem gText_bad {l : List UInt8} {k most c : Nat} (h : gText most (l.drop k) = .error c) : textS l most k 0 = ([], c, k) := by
  unfold gText at h
  unfold textS
  simp only [ne_eq, not_true_eq_false, if_false]
  cases hp : pText most (l.drop k) with
  | error d => rw [hp] at h; cases h; rfl
  | ok p => rw [hp] at h; cases h

theorem endS_at {l r : List UInt8} {k : Nat} (h : r = l.drop k) : endS l k 0 = if r = [] then 0 else 5 := by
  subst h
  unfold endS
  simp only [ne_eq, not_true_eq_false, if_false, List.drop_eq_nil_iff]
  by_cases hk : k < l.length
  · rw [if_pos hk, if_neg (by omega)]
  · rw [if_neg hk, if_pos (by omega)]

theorem readNum_ok {R : Nat} {l r q : List UInt8} {n : Nat} {w : World} (h : At w R G l r) (hg : gNum r = .ok (n, q)) :
    Calls Try.prog 99 #[.pointer (some ⟨R, 0, none⟩)] w fun e w' => e = .returned (.tuple #[.int .u64 (n : Int), .int .i64 0]) ∧ At w' R G l q ∧ Only R w w' := by
  obtain ⟨k, hk, rfl⟩ := h
  obtain ⟨u, e1, rfl⟩ := gNum_pNum hg
  have hN := rdNum_any R l k 0 w hk
  rw [e1] at hN
  exact hN.mono fun e w' ⟨h1, h2, h3⟩ => ⟨h2, ⟨_, h3, rfl⟩, h1⟩

theorem readNum_bad {R : Nat} {l r : List UInt8} {c : Nat} {w : World} (h : At w R G l r) (hg : gNum r = .error c) :
    Calls Try.prog 99 #[.pointer (some ⟨R, 0, none⟩)] w fun e w' => e = .returned (.tuple #[.int .u64 0, .int .i64 (c : Int)]) ∧ Only R w w' := by
  obtain ⟨k, hk, rfl⟩ := h
  have hN := rdNum_any R l k 0 w hk
  rw [gNum_bad hg] at hN
  exact hN.mono fun e w' ⟨h1, h2, _⟩ => ⟨h2, h1⟩

theorem readByte_ok {R : Nat} {l r q : List UInt8} {n : Nat} {w : World} (h : At w R G l r) (hg : gByte r = .ok (n, q)) :
    Calls Try.prog 101 #[.pointer (some ⟨R, 0, none⟩)] w fun e w' => e = .returned (.tuple #[.int .u8 (n : Int), .int .i64 0]) ∧ At w' R G l q ∧ Only R w w' := by
  obtain ⟨k, hk, rfl⟩ := h
  obtain ⟨e1, rfl⟩ := gByte_ok hg
  have hN := rdByte_any R l k 0 w hk
  rw [e1] at hN
  exact hN.mono fun e w' ⟨h1, h2, h3⟩ => ⟨h2, ⟨_, h3, rfl⟩, h1⟩

theorem readByte_bad {R : Nat} {l r : List UInt8} {c : Nat} {w : World} (h : At w R G l r) (hg : gByte r = .error c) :
    Calls Try.prog 101 #[.pointer (some ⟨R, 0, none⟩)] w fun e w' => e = .returned (.tuple #[.int .u8 0, .int .i64 (c : Int)]) ∧ Only R w w' := by
  obtain ⟨k, hk, rfl⟩ := h
  have hN := rdByte_any R l k 0 w hk
  rw [gByte_bad hg] at hN
  exact hN.mono fun e w' ⟨h1, h2, _⟩ => ⟨h2, h1⟩

theorem readRaw_ok {R : Nat} {l r q t : List UInt8} {w : World} (h : At w R G l r) (hg : gText 64 r = .ok (t, q)) :
    Calls Try.prog 102 #[.pointer (some ⟨R, 0, none⟩), .int .i64 64] w fun e w' => ∃ v, e = .returned (.tuple #[v, .int .i64 0]) ∧ Row w' w.heap.size v t ∧ At w' R G l q ∧ Only R w w' := by
  obtain ⟨k, hk, rfl⟩ := h
  obtain ⟨u, e1, rfl⟩ := gText_ok hg
  have hN := rdRaw_any R l k 0 64 (by omega) w hk
  rw [show (64 : Int).toNat = 64 from rfl, e1] at hN
  exact hN.mono fun e w' ⟨h1, v, h2, h3, h4⟩ => ⟨v, h2, h3, ⟨_, h4, rfl⟩, h1⟩

theorem readRaw_bad {R : Nat} {l r : List UInt8} {c : Nat} {w : World} (h : At w R G l r) (hg : gText 64 r = .error c) :
    Calls Try.prog 102 #[.pointer (some ⟨R, 0, none⟩), .int .i64 64] w fun e w' => ∃ v, e = .returned (.tuple #[v, .int .i64 (c : Int)]) ∧ (∃ a, v = .slice a 0 0 ∨ ∃ cap, v = .slice a 0 cap) ∧ Only R w w' := by
  obtain ⟨k, hk, rfl⟩ := h
  have hN := rdRaw_any R l k 0 64 (by omega) w hk
  rw [show (64 : Int).toNat = 64 from rfl, gText_bad hg] at hN
  exact hN.mono fun e w' ⟨h1, v, h2, h3, _⟩ => ⟨v, h2, by obtain ⟨a', c', e⟩ := slice_of_row h3; exact ⟨a', .inr ⟨c', e⟩⟩, h1⟩

theorem readEnd_any {R : Nat} {l r : List UInt8} {w : World} (h : At w R G l r) :
    Calls Try.prog 33 #[.pointer (some ⟨R, 0, none⟩)] w fun e w' => e = .returned (.int .i64 ((if r = [] then 0 else 5 : Nat) : Int)) ∧ Only R w w' := by
  obtain ⟨k, hk, hr⟩ := h
  have hN := rdEnd_any R l k 0 w hk
  rw [endS_at hr] at hN
  exact hN.mono fun e w' ⟨h1, _, h3⟩ => ⟨h1, h3⟩

theorem refreadNum_ok {Q : Nat} {a : Option Addr} {cap : Nat} {l r q : List UInt8} {n : Nat} {w : World} (h : RAt w Q G a cap l r) (hg : gNum r = .ok (n, q)) :
    Calls Try.prog 58 #[.pointer (some ⟨Q, 0, none⟩)] w fun e w' => e = .returned (.tuple #[.int .u64 (n : Int), .int .i64 0]) ∧ RAt w' Q G a cap l q ∧ Only Q w w' := by
  obtain ⟨k, hk, rfl⟩ := h
  obtain ⟨u, e1, rfl⟩ := gNum_pNum hg
  have hN := refNum_any Q l k 0 w hk
  rw [e1] at hN
  exact hN.mono fun e w' ⟨h1, h2, h3⟩ => ⟨h2, ⟨_, h3, rfl⟩, h1⟩

theorem refreadNum_bad {Q : Nat} {a : Option Addr} {cap : Nat} {l r : List UInt8} {c : Nat} {w : World} (h : RAt w Q G a cap l r) (hg : gNum r = .error c) :
    Calls Try.prog 58 #[.pointer (some ⟨Q, 0, none⟩)] w fun e w' => e = .returned (.tuple #[.int .u64 0, .int .i64 (c : Int)]) ∧ Only Q w w' := by
  obtain ⟨k, hk, rfl⟩ := h
  have hN := refNum_any Q l k 0 w hk
  rw [gNum_bad hg] at hN
  exact hN.mono fun e w' ⟨h1, h2, _⟩ => ⟨h2, h1⟩

theorem refreadByte_ok {Q : Nat} {a : Option Addr} {cap : Nat} {l r q : List UInt8} {n : Nat} {w : World} (h : RAt w Q G a cap l r) (hg : gByte r = .ok (n, q)) :
    Calls Try.prog 34 #[.pointer (some ⟨Q, 0, none⟩)] w fun e w' => e = .returned (.tuple #[.int .u8 (n : Int), .int .i64 0]) ∧ RAt w' Q G a cap l q ∧ Only Q w w' := by
  obtain ⟨k, hk, rfl⟩ := h
  obtain ⟨e1, rfl⟩ := gByte_ok hg
  have hN := refByte_any Q l k 0 w hk
  rw [e1] at hN
  exact hN.mono fun e w' ⟨h1, h2, h3⟩ => ⟨h2, ⟨_, h3, rfl⟩, h1⟩

theorem refreadByte_bad {Q : Nat} {a : Option Addr} {cap : Nat} {l r : List UInt8} {c : Nat} {w : World} (h : RAt w Q G a cap l r) (hg : gByte r = .error c) :
    Calls Try.prog 34 #[.pointer (some ⟨Q, 0, none⟩)] w fun e w' => e = .returned (.tuple #[.int .u8 0, .int .i64 (c : Int)]) ∧ Only Q w w' := by
  obtain ⟨k, hk, rfl⟩ := h
  have hN := refByte_any Q l k 0 w hk
  rw [gByte_bad hg] at hN
  exact hN.mono fun e w' ⟨h1, h2, _⟩ => ⟨h2, h1⟩

theorem refreadRaw_ok {Q : Nat} {a : Option Addr} {cap : Nat} {l r q t : List UInt8} {w : World} (h : RAt w Q G a cap l r) (hg : gText 64 r = .ok (t, q)) :
    Calls Try.prog 37 #[.pointer (some ⟨Q, 0, none⟩), .int .i64 64] w fun e w' => ∃ v, e = .returned (.tuple #[v, .int .i64 0]) ∧ Row w' w.heap.size v t ∧ RAt w' Q G a cap l q ∧ Only Q w w' := by
  obtain ⟨k, hk, rfl⟩ := h
  obtain ⟨u, e1, rfl⟩ := gText_ok hg
  have hN := refRaw_any Q l k 0 64 (by omega) w hk
  rw [show (64 : Int).toNat = 64 from rfl, e1] at hN
  exact hN.mono fun e w' ⟨h1, v, h2, h3, h4⟩ => ⟨v, h2, h3, ⟨_, h4, rfl⟩, h1⟩

theorem refreadRaw_bad {Q : Nat} {a : Option Addr} {cap : Nat} {l r : List UInt8} {c : Nat} {w : World} (h : RAt w Q G a cap l r) (hg : gText 64 r = .error c) :
    Calls Try.prog 37 #[.pointer (some ⟨Q, 0, none⟩), .int .i64 64] w fun e w' => ∃ v, e = .returned (.tuple #[v, .int .i64 (c : Int)]) ∧ (∃ a, v = .slice a 0 0 ∨ ∃ cap, v = .slice a 0 cap) ∧ Only Q w w' := by
  obtain ⟨k, hk, rfl⟩ := h
  have hN := refRaw_any Q l k 0 64 (by omega) w hk
  rw [show (64 : Int).toNat = 64 from rfl, gText_bad hg] at hN
  exact hN.mono fun e w' ⟨h1, v, h2, h3, _⟩ => ⟨v, h2, by obtain ⟨a', c', e⟩ := slice_of_row h3; exact ⟨a', .inr ⟨c', e⟩⟩, h1⟩

theorem refreadEnd_any {Q : Nat} {a : Option Addr} {cap : Nat} {l r : List UInt8} {w : World} (h : RAt w Q G a cap l r) :
    Calls Try.prog 40 #[.pointer (some ⟨Q, 0, none⟩)] w fun e w' => e = .returned (.int .i64 ((if r = [] then 0 else 5 : Nat) : Int)) ∧ Only Q w w' := by
  obtain ⟨k, hk, hr⟩ := h
  have hN := refEnd_any Q l k 0 w hk
  rw [endS_at hr] at hN
  exact hN.mono fun e w' ⟨h1, _, h3⟩ => ⟨h1, h3⟩

end Go.Proofs.Ytidapdooiibfnaa

/- The members, read by the program. -/
namespace Go.Proofs.Ytidapdooiibfnaa
set_option maxRecDepth 20000
open Go.RowKit BinMath CmdMath
variable {G : Nat}

theorem NRow.to {w w' : World} {B : Nat} {v : Value} {l : List Nat} (h : NRow w B v l) (hk : ∀ k, v.ownBlock = some k → w'.heap[k]? = w.heap[k]?) : NRow w' B v l := ownsRow_to h hk

theorem NRow.only {w w' : World} {B R : Nat} {v : Value} {l : List Nat} (h : NRow w B v l) (hR : R < B) (ho : Only R w w') : NRow w' B v l :=
  h.to fun k hk => by
    have := World.ownsRow.lt h k hk
    exact ho.block k this.2 (by omega)

theorem NRow.keep {w w' : World} {B : Nat} {v : Value} {l : List Nat} (h : NRow w B v l) (hb : Below w.heap.size w w') : NRow w' B v l := ownsRow_keep h hb

theorem made_nums (n : Nat) : (madeCells (Value.int .u64 0).cells (n * 1)).toList = (List.replicate n 0).map uv := by
  apply List.ext_getElem
  · simp [madeCells, Value.cells]
  · intro i h1 h2
    simp [madeCells, Value.cells, uv, Nat.mod_one]

theorem made_num_row {w : World} {B g n : Nat} (h : w.ownsRow B 22 1 (.slice (some ⟨g, 0, none⟩) n n) n (madeCells (Value.int .u64 0).cells (n * 1)).toList) : NRow w B (.slice (some ⟨g, 0, none⟩) n n) (List.replicate n 0) := by
  unfold NRow
  rw [List.length_replicate, ← made_nums]
  exact h

theorem nrow_set {w : World} {B g n c : Nat} {l : List Nat} (h : NRow w B (.slice (some ⟨g, 0, none⟩) n c) l) (hn : l.length = n) (j x : Nat) : NRow (w.setCell ⟨g, j, none⟩ (.int .u64 (x : Int))) B (.slice (some ⟨g, 0, none⟩) n c) (l.set j x) := by
  subst hn
  have h1 := (World.ownsRow.stored h j (uv x)).1
  unfold NRow
  rw [List.length_set, List.map_set]
  exact h1

theorem nrow_at {w : World} {B g n c : Nat} {l : List Nat} (h : NRow w B (.slice (some ⟨g, 0, none⟩) n c) l) (hn : l.length = n) (i : Nat) (hi : i < l.length) : w.cell? ⟨g, i, none⟩ = some (.int .u64 (l[i] : Int)) ∧ w.frozen? ⟨g, i, none⟩ = false := by
  subst hn
  have h1 := World.ownsRow.cellAt h i (by omega)
  refine ⟨?_, World.ownsRow.frozenAt h i⟩
  rw [h1]
  simp [hi, uv]

theorem At.only {w w' : World} {R : Nat} {l r : List UInt8} {S : Nat → Prop} (h : At w R G l r) (ho : OnlyS S w w') (hS : ∀ b, b < G → ¬ S b) (hSR : ¬ S R) : At w' R G l r := by
  obtain ⟨k, hk, e⟩ := h
  exact ⟨k, hk.only ho hS hSR, e⟩

theorem At.below {w w' : World} {R : Nat} {l r : List UInt8} (h : At w R G l r) (hb : Below w.heap.size w w') : At w' R G l r := by
  obtain ⟨k, hk, e⟩ := h
  exact ⟨k, hk.below hb, e⟩

theorem At.lt {w : World} {R : Nat} {l r : List UInt8} (h : At w R G l r) : R < w.heap.size ∧ G ≤ w.heap.size := by
  obtain ⟨k, hk, e⟩ := h
  have := hk.facts
  exact ⟨this.1, this.2.2.2⟩

/-- How the reading of the members ends. -/
def MemEnd (G R : Nat) (l r : List UInt8) (w : World) (e : Ending) (w' : World) : Prop :=
  Only R w w' ∧ match gMem r with
    | .ok (m, q) => ∃ v, e = .returned v ∧ NRow w' w.heap.size v m ∧ At w' R G l q
    | .error c => e = .panicked (lostC c)

theorem set_next (pre : List Nat) (n i x : Nat) (hp : pre.length = i) (hi : i < n) : (pre ++ List.replicate (n - i) 0).set i x = (pre ++ [x]) ++ List.replicate (n - (i + 1)) 0 := by
  subst hp
  rw [List.set_append_right _ _ (Nat.le_refl _), Nat.sub_self, show n - pre.length = (n - (pre.length + 1)) + 1 by omega, List.replicate_succ]
  simp

/-- What the first ones that were read make of the rest. -/
def joinR (pre : List Nat) : Except Nat (List Nat × List UInt8) → Except Nat (List Nat × List UInt8)
  | .error c => .error c
  | .ok (ids, q) => .ok (pre ++ ids, q)

theorem gIds_none {n last c : Nat} {r : List UInt8} (h : gNum r = .error c) : gIds (n + 1) last r = .error c := by
  simp only [gIds, h]

theorem gIds_bad {n last x : Nat} {r q : List UInt8} (h : gNum r = .ok (x, q)) (hx : ¬ (last < x ∧ x ≤ 7)) : gIds (n + 1) last r = .error 3 := by
  simp only [gIds, h, if_neg hx]

theorem gIds_next {n last x : Nat} {r q : List UInt8} (pre : List Nat) (h : gNum r = .ok (x, q)) (hx : last < x ∧ x ≤ 7) : joinR pre (gIds (n + 1) last r) = joinR (pre ++ [x]) (gIds n x q) := by
  simp only [gIds, h, if_pos hx]
  cases gIds n x q with
  | error c => rfl
  | ok p => obtain ⟨ids, q'⟩ := p; simp [joinR]

theorem gMem_ok {n : Nat} {r q : List UInt8} (h : gNum r = .ok (n, q)) (hn : 1 ≤ n ∧ n ≤ 7) : gMem r = joinR [] (gIds n 0 q) := by
  simp only [gMem, h, if_pos hn]
  cases gIds n 0 q with
  | error c => rfl
  | ok p => obtain ⟨ids, q'⟩ := p; simp [joinR]

set_option maxHeartbeats 4000000 in
theorem rmembers_any {R : Nat} {l r : List UInt8} {w : World} (h : At w R G l r) :
    Calls Try.prog 112 #[.pointer (some ⟨R, 0, none⟩)] w (MemEnd G R l r w) := by
  obtain ⟨i0, hi, hz0, hz1, hz2⟩ := info_parts info_num
  have hlt := h.lt
  cases hn : gNum r with
  | error c =>
    have hc := gNum_err hn
    have e : gMem r = .error c := by simp only [gMem, hn]
    have HN := Lib.hid (readNum_bad h hn)
    have HE := Lib.hid e
    have HT := Lib.hid (fun w => takeNum_bad 0 c w (by omega))
    clear h hn hc e
    go_enter Try.func112, Try.ntmps112
    go_wp2_with fail
    refine HN.out.mono ?_
    rintro e w1 ⟨rfl, ho⟩
    have HO := Lib.hid ho
    clear ho
    go_wp2_with fail
    refine (HT.out _).mono ?_
    rintro e w2 ⟨rfl, rfl⟩
    refine ⟨rfl, HO.out, ?_⟩
    rw [HE.out]
  | ok p =>
    obtain ⟨n, q⟩ := p
    have hn64 := (gNum_back hn).1
    have HN := Lib.hid (readNum_ok h hn)
    by_cases h17 : 1 ≤ n ∧ n ≤ 7
    · have e := gMem_ok hn h17
      have hct := fun W => isCount_any n W hn64
      rw [decide_eq_true h17] at hct
      have HE := Lib.hid e
      have HT := Lib.hid hct
      have hn7 := h17.2
      clear h hn e hct h17
      go_enter Try.func112, Try.ntmps112
      go_wp2_with fail
      refine HN.out.mono ?_
      rintro e w1 ⟨rfl, ha, ho⟩
      have HA := Lib.hid ha
      have HO := Lib.hid ho
      clear ha ho
      go_wp2_with fail
      refine (takeNum_ok n _).mono ?_
      rintro e w2 ⟨rfl, rfl⟩
      go_wp2_with fail
      refine (HT.out _).mono ?_
      rintro e w2 ⟨rfl, rfl⟩
      go_wp2_with fail
      refine (ask_yes _).mono ?_
      rintro e w2 ⟨rfl, rfl⟩
      have hsz : w.heap.size ≤ w2.heap.size := HO.out.size
      obtain ⟨g, hg⟩ : ∃ g, g = w2.heap.size := ⟨_, rfl⟩
      go_wp2_with (at_make; refine wpList_make_full _ rfl _ _ 24 rfl w.heap.size 22 i0 (.int .u64 0) 1 Try.underlying24 hi hz0 hz1 _ _ _ _ n rfl rfl rfl rfl (by rw [hz2]; omega) (by unfold maxLen; omega) hsz ?_; intro w3 hown hgrow; (have hb3 := (Below.refl _ w2).grown hgrow (Nat.le_refl _) (by simp)); (have HR3 := Lib.hid (made_num_row hown)); (have HA3 := Lib.hid (HA.out.below hb3)); (have HO3 := Lib.hid (HO.out.trans (Only.of_below hb3))); clear hown hgrow hb3)
      rw [← hg] at HR3 ⊢
      have hgw : w.heap.size ≤ g := by omega
      clear hg
      go_loopw [5, 20] (fun s5 s20 wr => ∃ (i last : Nat) (pre : List Nat) (rr : List UInt8), i ≤ n ∧ s20 = .int .i64 (i : Int) ∧ s5 = .int .u64 (last : Int) ∧ pre.length = i ∧ NRow wr w.heap.size (.slice (some ⟨g, 0, none⟩) n n) (pre ++ List.replicate (n - i) 0) ∧ At wr R G l rr ∧ Only R w wr ∧ gMem r = joinR pre (gIds (n - i) last rr)) (fun _ s20 _ => n - (intOf s20).toNat)
      case atStart => exact ⟨0, 0, [], q, by omega, rfl, rfl, rfl, HR3.out, HA3.out, HO3.out, HE.out⟩
      case round =>
        obtain ⟨i, last, pre, rr, hi, rfl, rfl, hpl, hrow, hat, hon, heq⟩ := hrel
        have HPl := Lib.hid hpl
        have HRow := Lib.hid hrow
        have HAt := Lib.hid hat
        have HOn := Lib.hid hon
        have HEq := Lib.hid heq
        clear hpl hrow hon heq
        by_cases hlt2 : i < n
        · obtain ⟨k, hk⟩ : ∃ k, n - i = k + 1 := ⟨n - i - 1, by omega⟩
          cases hx : gNum rr with
          | error c =>
            have hc := gNum_err hx
            have HN2 := Lib.hid (readNum_bad hat hx)
            have HE2 := Lib.hid (show gMem r = .error c by rw [HEq.out, hk, gIds_none hx]; rfl)
            have HT2 := Lib.hid (fun w => takeNum_bad 0 c w (by omega))
            clear hat hx hc hk
            go_wp2_with fail
            refine HN2.out.mono ?_
            rintro e w4 ⟨rfl, ho⟩
            have HO4 := Lib.hid (HOn.out.trans ho)
            clear ho
            go_wp2_with fail
            refine (HT2.out _).mono ?_
            rintro e w5 ⟨rfl, rfl⟩
            refine ⟨rfl, HO4.out, ?_⟩
            rw [HE2.out]
          | ok p =>
            obtain ⟨x, q2⟩ := p
            have hx64 := (gNum_back hx).1
            have HN2 := Lib.hid (readNum_ok hat hx)
            have hnx := fun W => isNext_any last x W hx64
            by_cases hxl : last < x ∧ x ≤ 7
            · rw [decide_eq_true hxl] at hnx
              have HX := Lib.hid hnx
              have HE2 := Lib.hid (show gMem r = joinR (pre ++ [x]) (gIds (n - (i + 1)) x q2) by rw [HEq.out, hk, gIds_next pre hx hxl, show n - (i + 1) = k by omega])
              clear hat hx hnx hxl hk
              go_wp2_with fail
              refine HN2.out.mono ?_
              rintro e w4 ⟨rfl, ha, ho⟩
              have HA4 := Lib.hid ha
              have HR4 := Lib.hid (HRow.out.only hlt.1 ho)
              have HO4 := Lib.hid (HOn.out.trans ho)
              clear ha ho
              go_wp2_with fail
              refine (takeNum_ok x _).mono ?_
              rintro e w5 ⟨rfl, rfl⟩
              go_wp2_with fail
              refine (HX.out _).mono ?_
              rintro e w5 ⟨rfl, rfl⟩
              go_wp2_with fail
              refine (ask_yes _).mono ?_
              rintro e w5 ⟨rfl, rfl⟩
              have hll : (pre ++ List.replicate (n - i) 0).length = n := by rw [List.length_append, List.length_replicate, HPl.out]; omega
              obtain ⟨⟨z, hcell⟩, hfree⟩ : (∃ z : Int, w5.cell? ⟨g, i, none⟩ = some (.int .u64 z)) ∧ w5.frozen? ⟨g, i, none⟩ = false := ⟨⟨_, (nrow_at HR4.out hll i (by omega)).1⟩, (nrow_at HR4.out hll i (by omega)).2⟩
              have hset := nrow_set HR4.out hll i x
              rw [set_next pre n i x HPl.out hlt2] at hset
              have hos : OnlyS (fun b => b = g) w5 (w5.setCell ⟨g, i, none⟩ (.int .u64 (x : Int))) := (OnlyS.refl (fun b => b = g) _).setCell (p := ⟨g, i, none⟩) (fun _ => rfl) _
              have HRs := Lib.hid hset
              have HAs := Lib.hid (HA4.out.only hos (fun b hb e => by omega) (by omega))
              have HOs := Lib.hid (HO4.out.setNew (p := ⟨g, i, none⟩) hgw (.int .u64 (x : Int)))
              clear hll hset hos
              go_wp2
              go_round
              case rel => exact ⟨i + 1, x, pre ++ [x], q2, by omega, by go_num, rfl, by rw [List.length_append, HPl.out]; rfl, HRs.out, HAs.out, HOs.out, HE2.out⟩
              case measure => simp [intOf]; omega
            · rw [decide_eq_false hxl] at hnx
              have HX := Lib.hid hnx
              have HE2 := Lib.hid (show gMem r = .error 3 by rw [HEq.out, hk, gIds_bad hx hxl]; rfl)
              clear hat hx hnx hxl hk
              go_wp2_with fail
              refine HN2.out.mono ?_
              rintro e w4 ⟨rfl, ha, ho⟩
              have HO4 := Lib.hid (HOn.out.trans ho)
              clear ha ho
              go_wp2_with fail
              refine (takeNum_ok x _).mono ?_
              rintro e w5 ⟨rfl, rfl⟩
              go_wp2_with fail
              refine (HX.out _).mono ?_
              rintro e w5 ⟨rfl, rfl⟩
              go_wp2_with fail
              refine (ask_no _).mono ?_
              rintro e w5 ⟨rfl, rfl⟩
              refine ⟨rfl, HO4.out, ?_⟩
              rw [HE2.out]
        · obtain rfl : i = n := by omega
          have e := HEq.out
          have hr := HRow.out
          rw [Nat.sub_self] at e hr
          simp only [gIds, joinR, List.append_nil] at e
          rw [List.replicate_zero, List.append_nil] at hr
          have HE2 := Lib.hid e
          have HR2 := Lib.hid hr
          clear e hr hat
          go_wp2
          go_ret
          refine ⟨HOn.out, ?_⟩
          rw [HE2.out]
          exact ⟨_, rfl, HR2.out, HAt.out⟩
    · have hct := fun W => isCount_any n W hn64
      rw [decide_eq_false h17] at hct
      have HE := Lib.hid (show gMem r = .error 3 by simp only [gMem, hn, if_neg h17])
      have HT := Lib.hid hct
      clear h hn hct h17
      go_enter Try.func112, Try.ntmps112
      go_wp2_with fail
      refine HN.out.mono ?_
      rintro e w1 ⟨rfl, ha, ho⟩
      have HO := Lib.hid ho
      clear ha ho
      go_wp2_with fail
      refine (takeNum_ok n _).mono ?_
      rintro e w2 ⟨rfl, rfl⟩
      go_wp2_with fail
      refine (HT.out _).mono ?_
      rintro e w2 ⟨rfl, rfl⟩
      go_wp2_with fail
      refine (ask_no _).mono ?_
      rintro e w2 ⟨rfl, rfl⟩
      refine ⟨rfl, HO.out, ?_⟩
      rw [HE.out]

end Go.Proofs.Ytidapdooiibfnaa

/- slices.Grow of the nil slice, and slices.Concat. -/
namespace Go.Proofs.Ytidapdooiibfnaa
set_option maxRecDepth 20000
open Go.RowKit BinMath CmdMath

/-- append in a walk, of a make. -/
theorem wpList_append_by2 {P : Program} {w : World} {ops : Array Oper} {rest : List Oper} {o : Oper} {a : Act} {Q : Exit → Act → World → Prop} (hgd : o.guard = none) (s x : Operand) (t t2 : TypeId)
    (ho : o.op = .call { callee := .builtin .append, args := #[s, x], argTypes := #[t, t2] }) (v y : Value) (hs : a.eval s = v) (hx : a.eval x = y) (R : Value → World → Prop)
    (hr : ∃ v' w', (Builtin.append_ #[t, t2] o.type #[v, y]).run P w = .ok v' w' ∧ R v' w')
    (h : ∀ v' w', R v' w' → wpList P ops Q rest (a.put o.dst v') w') : wpList P ops Q (o :: rest) a w := by
  obtain ⟨v', w', hrun, hR⟩ := hr
  refine wpList_plain hgd fun K hK => ?_
  unfold Oper.wp
  simp [execOp, ho, resolve, invoke, builtin, hs, hx, hrun, Result.andThen]
  exact hK _ _ (h v' w' hR)

/-- append([]byte(nil), make([]byte, k)...). -/
theorem append_none_zeros (w : World) (k : Nat) (h0 : 0 < k) (hk : k ≤ 1099511627776) :
    ∃ v' w', (Builtin.append_ #[25, 3] 25 #[.slice none 0 0, .int .i64 (k : Int)]).run Try.prog w = .ok v' w' ∧ ∃ g cap cur, v' = .slice (some ⟨g, 0, none⟩) k cap ∧ w.heap.size ≤ g ∧ w'.heap[g]? = some (.cells cur 5 (0, 0)) ∧ cap ≤ maxLen ∧ k ≤ cap ∧ cur.size = cap ∧ Below w.heap.size w w' := by
  obtain ⟨i0, hi, hz0, hz1, hz2⟩ := info_parts info_byte
  have hr := Lib.run_append_nil_zeros (P := Try.prog) w 25 3 25 5 i0 (.int .u8 0) .i64 .i64 Try.underlying25 Try.underlying3 hi hz0 k (by omega) (by omega) (by omega) (by rw [hz2]; omega)
  have hge := grownCap_ge w k 0 5
  have hle := grownCap_le_maxLen w k 0 5 (by unfold maxLen; omega)
  refine ⟨_, _, hr, w.heap.size, _, _, rfl, Nat.le_refl _, heap_alloc_new w.drew _, hle, hge, ?_, (Below.refl _ _).drew.alloc (Nat.le_refl _) _⟩
  simp [size_zeroCells, Value.cells]
  omega

set_option maxHeartbeats 1000000 in
theorem grow_any (n : Nat) (w : World) (hn : n ≤ 1099511627776) :
    Calls Try.prog 91 #[.slice none 0 0, .int .i64 (n : Int)] w fun e w' => ∃ v', e = .returned v' ∧ Row w' w.heap.size v' [] ∧ Below w.heap.size w w' := by
  by_cases h0 : n = 0
  · subst h0
    go_enter Try.func91, Try.ntmps91
    go_wp2
    go_ret
    exact ⟨_, rfl, World.ownsRow_nil _ _ _ _, Below.refl _ _⟩
  · have A1 := Lib.hid (append_none_zeros w n (by omega) hn)
    have h1 : ¬ ((n : Int) < 0) := by omega
    have h2 : (0 : Int) < (n : Int) := by omega
    clear h0
    go_enter Try.func91, Try.ntmps91
    go_wp2_with (at_builtin; refine wpList_append_by2 rfl _ _ 25 3 rfl _ _ rfl rfl _ A1.out ?_; rintro x w2 ⟨g, cap, cur, rfl, hg1, hg2, hg3, hg4, hg5, hg6⟩; (have H2 := Lib.hid hg2); (have H5 := Lib.hid hg5); (have H6 := Lib.hid hg6); clear hg2 hg5 hg6)
    go_ret
    refine ⟨_, rfl, ⟨by simp, .inr ⟨g, cap, cur, rfl, hg1, H2.out, Nat.zero_le _, hg3, by simpa using H5.out, by simp⟩⟩, H6.out⟩

/-- A list of texts in cells of a row. -/
def Parts (w : World) (g : Nat) (ls : List (List UInt8)) : Prop := ∀ i (h : i < ls.length), ∃ v, w.cell? ⟨g, i, none⟩ = some v ∧ Bys w v ls[i]

theorem Parts.below {w w' : World} {g : Nat} {ls : List (List UInt8)} (h : Parts w g ls) {B : Nat} (hB : w.heap.size ≤ B) (hb : Below B w w') : Parts w' g ls := fun i hi => by
  obtain ⟨v, hc, hv⟩ := h i hi
  exact ⟨v, by rw [hb.cell (p := ⟨g, i, none⟩) (Nat.lt_of_lt_of_le (World.block_lt_of_cell? w _ hc) hB)]; exact hc, hv.below hB hb⟩

/-- How many bytes the first i have. -/
def lenTo (ls : List (List UInt8)) (i : Nat) : Nat := (ls.take i).flatten.length

theorem take_step (ls : List (List UInt8)) (i : Nat) (hi : i < ls.length) : (ls.take (i + 1)).flatten = (ls.take i).flatten ++ ls[i] := by
  rw [List.take_add_one, List.getElem?_eq_getElem hi]
  simp only [Option.toList_some, List.flatten_append, List.flatten_cons, List.flatten_nil, List.append_nil]

theorem lenTo_step (ls : List (List UInt8)) (i : Nat) (hi : i < ls.length) : lenTo ls (i + 1) = lenTo ls i + ls[i].length := by
  unfold lenTo
  rw [take_step ls i hi, List.length_append]

theorem lenTo_le (ls : List (List UInt8)) (i : Nat) : lenTo ls i ≤ ls.flatten.length := by
  unfold lenTo
  have h := congrArg List.flatten (List.take_append_drop i ls)
  rw [List.flatten_append] at h
  rw [← h, List.length_append]
  omega

set_option maxHeartbeats 2000000 in
theorem concat_any (g n : Nat) (ls : List (List UInt8)) (w : World) (h : Parts w g ls) (hn : n = ls.length) (hn4 : n ≤ 1099511627776) (hl : ls.flatten.length ≤ 1099511627776) :
    Calls Try.prog 88 #[.slice (some ⟨g, 0, none⟩) n n] w fun e w' => ∃ v', e = .returned v' ∧ Row w' w.heap.size v' ls.flatten ∧ Below w.heap.size w w' := by
  have HN := Lib.hid hn
  have HP := Lib.hid h
  obtain ⟨T, hT⟩ : ∃ T, T = ls.flatten.length := ⟨_, rfl⟩
  have hle := fun i => lenTo_le ls i
  rw [← hT] at hl hle
  have HL := Lib.hid hle
  have HT := Lib.hid hT
  have hz : lenTo ls 0 = 0 := by simp [lenTo]
  have HZ := Lib.hid hz
  clear hn h hle hT hz
  go_enter Try.func88, Try.ntmps88
  go_wp2
  go_loop [3, 11] (fun s3 s11 => ∃ i s : Nat, i ≤ n ∧ s11 = .int .i64 (i : Int) ∧ s3 = .int .i64 (s : Int) ∧ s = lenTo ls i) (fun _ s11 => n - (intOf s11).toNat)
  case atStart => exact ⟨0, 0, by omega, rfl, rfl, HZ.out.symm⟩
  case round =>
    obtain ⟨i, s, hi, rfl, rfl, hs⟩ := hrel
    have hsl : s ≤ T := by rw [hs]; exact HL.out i
    have HS := Lib.hid hs
    clear hs
    by_cases hlt : i < n
    · have hil : i < ls.length := by have := HN.out; omega
      obtain ⟨v, hc, hv⟩ := HP.out i hil
      obtain ⟨a, cap, rfl⟩ := hv.shape
      have hst := lenTo_step ls i hil
      have hlu := HL.out (i + 1)
      obtain ⟨m, hm⟩ : ∃ m, m = ls[i].length := ⟨_, rfl⟩
      rw [← hm] at hc hst
      rw [← HS.out] at hst
      rw [hst] at hlu
      have HST := Lib.hid hst
      clear hst hv hm hil
      go_wp2
      go_round
      case rel => exact ⟨i + 1, s + m, by omega, by go_num, by go_num, HST.out.symm⟩
      case measure => simp [intOf]; omega
    · obtain rfl : i = n := by omega
      have HG := Lib.hid (grow_any s w (by omega))
      go_wp2_with fail
      refine HG.out.mono ?_
      rintro e w1 ⟨v1, rfl, hr1, hb1⟩
      have HR1 := Lib.hid hr1
      have HB1 := Lib.hid hb1
      clear hr1 hb1 HG hlt
      go_wp2
      go_loopw [6, 27] (fun s6 s27 wr => ∃ j : Nat, j ≤ i ∧ s27 = .int .i64 (j : Int) ∧ Row wr w.heap.size s6 (ls.take j).flatten ∧ Below w.heap.size w wr) (fun _ s27 _ => i - (intOf s27).toNat)
      case atStart => exact ⟨0, by omega, rfl, by simpa using HR1.out, HB1.out⟩
      case round =>
        obtain ⟨j, hj, rfl, hrow, hbw⟩ := hrel
        by_cases hlj : j < i
        · have hjl : j < ls.length := by have := HN.out; omega
          obtain ⟨v, hc, hv⟩ := HP.out j hjl
          have hlen := HL.out (j + 1)
          have hst := take_step ls j hjl
          unfold lenTo at hlen
          rw [hst, List.length_append] at hlen
          have hc1 : wr.cell? ⟨g, j, none⟩ = some v := by rw [hbw.cell (p := ⟨g, j, none⟩) (World.block_lt_of_cell? w _ hc)]; exact hc
          obtain ⟨x0, hx0⟩ : ∃ x0, x0 = ls[j] := ⟨_, rfl⟩
          rw [← hx0] at hv hlen hst
          have A2 := append_bys hbw.size hrow (hv.below (Nat.le_refl _) hbw) (by omega)
          have H2 := Lib.hid A2
          have HST := Lib.hid hst
          have HR := Lib.hid hrow
          have HB := Lib.hid hbw
          clear hc hv hlen hst A2 hrow hbw hx0 hjl
          go_wp2_with (at_builtin; refine wpList_append_by rfl _ _ 25 rfl _ _ rfl rfl _ H2.out ?_; rintro x w2 ⟨hr2, hb2⟩; (have HR2 := Lib.hid hr2); (have HB2 := Lib.hid hb2); clear hr2 hb2)
          go_round
          case rel => exact ⟨j + 1, by omega, by go_num, by rw [HST.out]; exact HR2.out, HB.out.grown HB2.out HB.out.size fun k hk => (World.ownsRow.lt HR.out k hk).1⟩
          case measure => simp [intOf]; omega
        · have e : ls.take j = ls := List.take_of_length_le (by have := HN.out; omega)
          rw [e] at hrow
          have HR := Lib.hid hrow
          have HB := Lib.hid hbw
          clear hrow hbw
          go_wp2
          go_ret
          exact ⟨_, rfl, HR.out, HB.out⟩

end Go.Proofs.Ytidapdooiibfnaa

