/- Layer 12's entries as plain data: which are formed, their bytes, and how bytes are read. No program is named here. -/
import Derived.Test.YtboongdoggggoaaReadMath
namespace Go.Proofs.Ytboongdoggggoaa.CmdMath
set_option maxRecDepth 20000
open BinMath

/-- An entry: term, kind, client, sequence number, data, members. -/
structure Ent where
  t : Nat
  k : Int
  c : Nat
  s : Nat
  d : List UInt8
  m : List Nat
deriving DecidableEq

def Ent.zero : Ent := ⟨0, 0, 0, 0, [], []⟩

/-- The fields lie in their types' ranges. -/
structure Ent.Ok (e : Ent) : Prop where
  t : e.t < 18446744073709551616
  kl : -9223372036854775808 ≤ e.k
  kh : e.k < 9223372036854775808
  c : e.c < 18446744073709551616
  s : e.s < 18446744073709551616
  m : ∀ x ∈ e.m, x < 18446744073709551616

theorem Ent.Ok.zero : Ent.Ok Ent.zero := ⟨by decide, by decide, by decide, by decide, by decide, by simp [Ent.zero]⟩

/-- Ids that rise from behind a on, none above 7. -/
def rises : Nat → List Nat → Bool
  | _, [] => true
  | a, x :: r => decide (a < x ∧ x ≤ 7) && rises x r

def memOk (m : List Nat) : Bool := !m.isEmpty && rises 0 m

theorem rises_len : ∀ (m : List Nat) (a : Nat), a ≤ 7 → rises a m = true → m.length + a ≤ 7
  | [], a, ha, _ => by simpa using ha
  | x :: r, a, ha, h => by
    simp [rises] at h
    have := rises_len r x h.1.2 h.2
    simp only [List.length_cons]; omega

theorem memOk_len {m : List Nat} (h : memOk m = true) : 1 ≤ m.length ∧ m.length ≤ 7 := by
  simp [memOk] at h
  have := rises_len m 0 (by omega) h.2
  refine ⟨?_, by omega⟩
  cases m with
  | nil => simp at h
  | cons a r => simp

theorem rises_lt : ∀ (m : List Nat) (a : Nat), rises a m = true → ∀ x ∈ m, x ≤ 7
  | [], _, _, x, hx => by simp at hx
  | y :: r, a, h, x, hx => by
    simp [rises] at h
    rcases List.mem_cons.1 hx with rfl | hx
    · exact h.1.2
    · exact rises_lt r y h.2 x hx

def bare (e : Ent) : Bool := decide (e.c = 0) && decide (e.s = 0) && decide (e.d.length = 0)

def termOk (t : Nat) : Bool := decide (1 ≤ t ∧ t ≤ 4611686018427387904)

def formed (e : Ent) : Bool := termOk e.t && (if e.k = 1 then bare e && decide (e.m.length = 0) else if e.k = 2 then decide (e.d.length ≤ 64) && decide (e.m.length = 0) else if e.k = 3 then bare e && memOk e.m else false)

def idsL : List Nat → List UInt8
  | [] => []
  | x :: r => numL x ++ idsL r

theorem idsL_append (a b : List Nat) : idsL (a ++ b) = idsL a ++ idsL b := by
  induction a with
  | nil => rfl
  | cons x r ih => simp [idsL, ih]

def tailL (e : Ent) : List UInt8 := if e.k = 2 then numL e.c ++ (numL e.s ++ (numL e.d.length ++ e.d)) else if e.k = 3 then numL e.m.length ++ idsL e.m else []

/-- The bytes of an entry. -/
def putL (e : Ent) : List UInt8 := numL e.t ++ (UInt8.ofNat (e.k % 256).toNat :: tailL e)

/-! ### Reading: what is read and the rest, or the first fault -/

def gNum (l : List UInt8) : Except Nat (Nat × List UInt8) := match pNum l with
  | .ok (n, u) => .ok (n, l.drop u)
  | .error c => .error c

def gByte : List UInt8 → Except Nat (Nat × List UInt8)
  | [] => .error 2
  | c :: r => .ok (c.toNat, r)

def gText (most : Nat) (l : List UInt8) : Except Nat (List UInt8 × List UInt8) := match pText most l with
  | .ok (t, u) => .ok (t, l.drop u)
  | .error c => .error c

def gIds : Nat → Nat → List UInt8 → Except Nat (List Nat × List UInt8)
  | 0, _, l => .ok ([], l)
  | n + 1, last, l => match gNum l with
    | .error c => .error c
    | .ok (id, r) => if last < id ∧ id ≤ 7 then match gIds n id r with
        | .error c => .error c
        | .ok (ids, q) => .ok (id :: ids, q)
      else .error 3

def gMem (l : List UInt8) : Except Nat (List Nat × List UInt8) := match gNum l with
  | .error c => .error c
  | .ok (n, r) => if 1 ≤ n ∧ n ≤ 7 then gIds n 0 r else .error 3

/-- What stands behind the kind of a put: client, sequence number, data. -/
def gPut (t : Nat) (l : List UInt8) : Except Nat (Ent × List UInt8) := match gNum l with
  | .error x => .error x
  | .ok (c, r) => match gNum r with
    | .error x => .error x
    | .ok (s, r) => match gText 64 r with
      | .error x => .error x
      | .ok (d, r) => .ok (⟨t, 2, c, s, d, []⟩, r)

def gConf (t : Nat) (l : List UInt8) : Except Nat (Ent × List UInt8) := match gMem l with
  | .error x => .error x
  | .ok (m, r) => .ok (⟨t, 3, 0, 0, [], m⟩, r)

def gKind (t : Nat) (l : List UInt8) : Except Nat (Ent × List UInt8) := match gByte l with
  | .error x => .error x
  | .ok (k, r) => if k = 1 then .ok (⟨t, 1, 0, 0, [], []⟩, r) else if k = 2 then gPut t r else if k = 3 then gConf t r else .error 3

def gEnt (l : List UInt8) : Except Nat (Ent × List UInt8) := match gNum l with
  | .error x => .error x
  | .ok (t, r) => if 1 ≤ t ∧ t ≤ 4611686018427387904 then gKind t r else .error 3

/-- What Get answers: the entry and the error. -/
def getR (l : List UInt8) : Ent × Nat := match gEnt l with
  | .error x => (Ent.zero, x)
  | .ok (e, r) => if r = [] then (e, 0) else (Ent.zero, 5)

/-! ### What was laid is read -/

theorem gNum_lay (n : Nat) (r : List UInt8) (hn : n < 18446744073709551616) : gNum (numL n ++ r) = .ok (n, r) := by
  unfold gNum
  rw [pNum_numL n r hn]
  simp only [List.drop_left]

theorem gText_lay (t r : List UInt8) (most : Nat) (hm : t.length ≤ most) (ht : t.length < 18446744073709551616) : gText most (numL t.length ++ (t ++ r)) = .ok (t, r) := by
  unfold gText
  rw [pText_rawL t r ht most hm]
  simp only
  rw [← List.append_assoc, List.drop_left' (by simp)]

theorem gIds_lay : ∀ (m : List Nat) (a : Nat) (r : List UInt8), rises a m = true → gIds m.length a (idsL m ++ r) = .ok (m, r)
  | [], a, r, _ => rfl
  | x :: m, a, r, h => by
    simp [rises] at h
    simp only [List.length_cons, gIds, idsL, List.append_assoc]
    rw [gNum_lay x _ (by omega)]
    simp only
    rw [if_pos h.1, gIds_lay m x r h.2]

theorem gMem_lay (m : List Nat) (r : List UInt8) (h : memOk m = true) : gMem (numL m.length ++ (idsL m ++ r)) = .ok (m, r) := by
  have hl := memOk_len h
  unfold gMem
  rw [gNum_lay _ _ (by omega)]
  simp only
  rw [if_pos hl]
  simp [memOk] at h
  exact gIds_lay m 0 r h.2

theorem gEnt_lay (e : Ent) (hok : e.Ok) (h : formed e = true) (r : List UInt8) : gEnt (putL e ++ r) = .ok (e, r) := by
  obtain ⟨t, k, c, s, d, m⟩ := e
  simp only [formed, Bool.and_eq_true, termOk, decide_eq_true_eq] at h
  obtain ⟨ht, h⟩ := h
  simp only [gEnt, putL, List.append_assoc, List.cons_append]
  rw [gNum_lay _ _ hok.t]
  simp only
  rw [if_pos ht]
  simp only [gKind, gByte]
  by_cases h1 : k = 1
  · subst h1
    rw [if_pos rfl] at h
    simp [bare] at h
    obtain ⟨⟨⟨rfl, rfl⟩, rfl⟩, rfl⟩ := h
    have e1 : (UInt8.ofNat ((1 : Int) % 256).toNat).toNat = 1 := by decide
    simp only [e1, if_pos, tailL]
    simp
  · rw [if_neg h1] at h
    by_cases h2 : k = 2
    · subst h2
      rw [if_pos rfl] at h
      simp at h
      obtain ⟨hd, rfl⟩ := h
      have e1 : (UInt8.ofNat ((2 : Int) % 256).toNat).toNat = 2 := by decide
      simp only [e1, tailL, gPut, List.append_assoc, Nat.reduceEqDiff, ↓reduceIte]
      rw [gNum_lay _ _ hok.c]
      simp only
      rw [gNum_lay _ _ hok.s]
      simp only
      rw [gText_lay d r 64 hd (by omega)]
    · rw [if_neg h2] at h
      by_cases h3 : k = 3
      · subst h3
        rw [if_pos rfl] at h
        simp [bare] at h
        obtain ⟨⟨⟨rfl, rfl⟩, rfl⟩, hm⟩ := h
        have e1 : (UInt8.ofNat ((3 : Int) % 256).toNat).toNat = 3 := by decide
        simp only [e1, tailL, gConf, List.append_assoc, Nat.reduceEqDiff, Int.reduceEq, ↓reduceIte]
        rw [gMem_lay m r hm]
      · rw [if_neg h3] at h
        exact absurd h (by simp)

theorem getR_lay (e : Ent) (hok : e.Ok) (h : formed e = true) : getR (putL e) = (e, 0) := by
  unfold getR
  have := gEnt_lay e hok h []
  rw [List.append_nil] at this
  rw [this]
  simp

theorem getR_more (e : Ent) (hok : e.Ok) (h : formed e = true) (x : UInt8) (r : List UInt8) : getR (putL e ++ x :: r) = (Ent.zero, 5) := by
  unfold getR
  rw [gEnt_lay e hok h (x :: r)]
  simp

/-! ### What is read was laid -/

theorem gNum_back {l r : List UInt8} {n : Nat} (h : gNum l = .ok (n, r)) : n < 18446744073709551616 ∧ l = numL n ++ r := by
  unfold gNum at h
  cases hp : pNum l with
  | error c => rw [hp] at h; cases h
  | ok p =>
    obtain ⟨m, u⟩ := p
    rw [hp] at h
    simp at h
    obtain ⟨rfl, rfl⟩ := h
    exact ⟨(pNum_used hp).2.1, by rw [pNum_back hp, List.take_append_drop]⟩

theorem gByte_back {l r : List UInt8} {n : Nat} (h : gByte l = .ok (n, r)) : n < 256 ∧ l = UInt8.ofNat n :: r := by
  cases l with
  | nil => simp [gByte] at h
  | cons c q =>
    simp [gByte] at h
    obtain ⟨rfl, rfl⟩ := h
    exact ⟨c.toNat_lt, by simp⟩

theorem gText_back {most : Nat} {l t r : List UInt8} (h : gText most l = .ok (t, r)) : t.length ≤ most ∧ l = numL t.length ++ (t ++ r) := by
  unfold gText at h
  cases hp : pText most l with
  | error c => rw [hp] at h; cases h
  | ok p =>
    obtain ⟨m, u⟩ := p
    rw [hp] at h
    simp at h
    obtain ⟨rfl, rfl⟩ := h
    refine ⟨(pText_used hp).2.1, ?_⟩
    unfold pText at hp
    cases hn : pNum l with
    | error c => rw [hn] at hp; cases hp
    | ok p =>
      obtain ⟨n, v⟩ := p
      rw [hn] at hp
      have hu := pNum_used hn
      have hb := pNum_back hn
      simp only at hp
      split at hp
      · cases hp
      · split at hp
        · cases hp
        · rename_i h1 h2
          simp at hp
          obtain ⟨rfl, rfl⟩ := hp
          have el : ((l.drop v).take n).length = n := by simp; omega
          rw [el, hb]
          rw [← List.drop_drop, List.take_append_drop, List.take_append_drop]

theorem gIds_back : ∀ (n a : Nat) (l r : List UInt8) (m : List Nat), gIds n a l = .ok (m, r) → m.length = n ∧ rises a m = true ∧ l = idsL m ++ r
  | 0, a, l, r, m, h => by
    simp [gIds] at h
    obtain ⟨rfl, rfl⟩ := h
    exact ⟨rfl, rfl, rfl⟩
  | n + 1, a, l, r, m, h => by
    simp only [gIds] at h
    cases hn : gNum l with
    | error c => rw [hn] at h; cases h
    | ok p =>
      obtain ⟨x, q⟩ := p
      rw [hn] at h
      obtain ⟨hx, hl⟩ := gNum_back hn
      simp only at h
      split at h
      · rename_i hc
        cases hi : gIds n x q with
        | error c => rw [hi] at h; cases h
        | ok p =>
          obtain ⟨ids, q'⟩ := p
          rw [hi] at h
          simp at h
          obtain ⟨rfl, rfl⟩ := h
          obtain ⟨h1, h2, h3⟩ := gIds_back n x q q' ids hi
          refine ⟨by simp [h1], by simp [rises, hc, h2], ?_⟩
          rw [hl, h3]
          simp [idsL]
      · cases h

theorem gMem_back {l r : List UInt8} {m : List Nat} (h : gMem l = .ok (m, r)) : memOk m = true ∧ l = numL m.length ++ (idsL m ++ r) := by
  unfold gMem at h
  cases hn : gNum l with
  | error c => rw [hn] at h; cases h
  | ok p =>
    obtain ⟨n, q⟩ := p
    rw [hn] at h
    obtain ⟨hx, hl⟩ := gNum_back hn
    simp only at h
    split at h
    · rename_i hc
      obtain ⟨h1, h2, h3⟩ := gIds_back _ _ _ _ _ h
      refine ⟨?_, by rw [hl, h3, h1]⟩
      cases m with
      | nil => simp at h1; omega
      | cons x r => simp [memOk, h2]
    · cases h

theorem gEnt_back {l r : List UInt8} {e : Ent} (h : gEnt l = .ok (e, r)) : e.Ok ∧ formed e = true ∧ l = putL e ++ r := by
  unfold gEnt at h
  cases hn : gNum l with
  | error c => rw [hn] at h; cases h
  | ok p =>
    obtain ⟨t, q⟩ := p
    rw [hn] at h
    obtain ⟨hx, hl⟩ := gNum_back hn
    simp only at h
    split at h
    · rename_i ht
      unfold gKind at h
      cases hb : gByte q with
      | error c => rw [hb] at h; cases h
      | ok p =>
        obtain ⟨k, q'⟩ := p
        rw [hb] at h
        obtain ⟨hk, hq⟩ := gByte_back hb
        simp only at h
        split at h
        · rename_i h1
          simp at h
          obtain ⟨rfl, rfl⟩ := h
          refine ⟨⟨hx, by simp, by simp, by simp, by simp, by simp⟩, by simp [formed, termOk, bare, ht], ?_⟩
          rw [hl, hq, h1]
          simp [putL, tailL]
        · split at h
          · rename_i h1 h2
            unfold gPut at h
            cases hc : gNum q' with
            | error c => rw [hc] at h; cases h
            | ok p =>
              obtain ⟨c, q2⟩ := p
              rw [hc] at h
              obtain ⟨hcx, hcl⟩ := gNum_back hc
              simp only at h
              cases hs : gNum q2 with
              | error c => rw [hs] at h; cases h
              | ok p =>
                obtain ⟨s, q3⟩ := p
                rw [hs] at h
                obtain ⟨hsx, hsl⟩ := gNum_back hs
                simp only at h
                cases hd : gText 64 q3 with
                | error c => rw [hd] at h; cases h
                | ok p =>
                  obtain ⟨d, q4⟩ := p
                  rw [hd] at h
                  obtain ⟨hdx, hdl⟩ := gText_back hd
                  simp at h
                  obtain ⟨rfl, rfl⟩ := h
                  refine ⟨⟨hx, by simp, by simp, hcx, hsx, by simp⟩, by simp [formed, termOk, ht, hdx], ?_⟩
                  rw [hl, hq, h2, hcl, hsl, hdl]
                  simp [putL, tailL]
          · split at h
            · rename_i h1 h2 h3
              unfold gConf at h
              cases hm : gMem q' with
              | error c => rw [hm] at h; cases h
              | ok p =>
                obtain ⟨m, q2⟩ := p
                rw [hm] at h
                obtain ⟨hmo, hml⟩ := gMem_back hm
                simp at h
                obtain ⟨rfl, rfl⟩ := h
                have hmo2 := hmo
                simp [memOk] at hmo2
                refine ⟨⟨hx, by simp, by simp, by simp, by simp, fun x hx => by have := rises_lt m 0 hmo2.2 x hx; omega⟩, by simp [formed, termOk, ht, bare, hmo], ?_⟩
                rw [hl, hq, h3, hml]
                simp [putL, tailL]
            · cases h
    · cases h

theorem gNum_err {l : List UInt8} {c : Nat} (h : gNum l = .error c) : 2 ≤ c ∧ c ≤ 3 := by
  unfold gNum at h
  cases hp : pNum l with
  | error d => rw [hp] at h; cases h; rcases pNum_err hp with h | h <;> omega
  | ok p => rw [hp] at h; cases h

theorem gText_err {most : Nat} {l : List UInt8} {c : Nat} (h : gText most l = .error c) : 2 ≤ c ∧ c ≤ 4 := by
  unfold gText at h
  cases hp : pText most l with
  | ok p => rw [hp] at h; cases h
  | error d =>
    rw [hp] at h; cases h
    unfold pText at hp
    cases hn : pNum l with
    | error d => rw [hn] at hp; cases hp; rcases pNum_err hn with h | h <;> omega
    | ok p =>
      rw [hn] at hp
      simp only at hp
      split at hp
      · cases hp; omega
      · split at hp
        · cases hp; omega
        · cases hp

theorem gIds_err : ∀ (n a : Nat) (l : List UInt8) (c : Nat), gIds n a l = .error c → 2 ≤ c ∧ c ≤ 3
  | 0, a, l, c, h => by simp [gIds] at h
  | n + 1, a, l, c, h => by
    simp only [gIds] at h
    cases hn : gNum l with
    | error d => rw [hn] at h; cases h; exact gNum_err hn
    | ok p =>
      obtain ⟨x, q⟩ := p
      rw [hn] at h
      simp only at h
      split at h
      · cases hi : gIds n x q with
        | error d => rw [hi] at h; cases h; exact gIds_err n x q _ hi
        | ok p => rw [hi] at h; cases h
      · cases h; omega

theorem gMem_err {l : List UInt8} {c : Nat} (h : gMem l = .error c) : 2 ≤ c ∧ c ≤ 3 := by
  unfold gMem at h
  cases hn : gNum l with
  | error d => rw [hn] at h; cases h; exact gNum_err hn
  | ok p =>
    rw [hn] at h
    simp only at h
    split at h
    · exact gIds_err _ _ _ _ h
    · cases h; omega

theorem gEnt_err {l : List UInt8} {c : Nat} (h : gEnt l = .error c) : 2 ≤ c ∧ c ≤ 4 := by
  unfold gEnt at h
  cases hn : gNum l with
  | error d => rw [hn] at h; cases h; have := gNum_err hn; omega
  | ok p =>
    obtain ⟨t, q⟩ := p
    rw [hn] at h
    simp only at h
    split at h
    · unfold gKind at h
      cases hb : gByte q with
      | error d => rw [hb] at h; cases h; cases q <;> simp [gByte] at hb; omega
      | ok p =>
        obtain ⟨k, q'⟩ := p
        rw [hb] at h
        simp only at h
        split at h
        · cases h
        · split at h
          · unfold gPut at h
            cases hc : gNum q' with
            | error d => rw [hc] at h; cases h; have := gNum_err hc; omega
            | ok p =>
              rw [hc] at h
              simp only at h
              cases hs : gNum p.2 with
              | error d => rw [hs] at h; cases h; have := gNum_err hs; omega
              | ok p =>
                rw [hs] at h
                simp only at h
                cases hd : gText 64 p.2 with
                | error d => rw [hd] at h; cases h; exact gText_err hd
                | ok p => rw [hd] at h; cases h
          · split at h
            · unfold gConf at h
              cases hm : gMem q' with
              | error d => rw [hm] at h; cases h; have := gMem_err hm; omega
              | ok p => rw [hm] at h; cases h
            · cases h; omega
    · cases h; omega

theorem getR_back {l : List UInt8} {e : Ent} (h : getR l = (e, 0)) : e.Ok ∧ formed e = true ∧ putL e = l := by
  unfold getR at h
  cases hg : gEnt l with
  | error c => rw [hg] at h; simp at h; have := gEnt_err hg; omega
  | ok p =>
    obtain ⟨f, r⟩ := p
    rw [hg] at h
    simp only at h
    split at h
    · rename_i hr
      simp at h
      subst h hr
      obtain ⟨h1, h2, h3⟩ := gEnt_back hg
      exact ⟨h1, h2, by rw [h3, List.append_nil]⟩
    · simp at h

/-- Whatever is answered: with an error the zero entry, and the numbers' ranges. -/
theorem getR_cases (l : List UInt8) : ((getR l).2 = 0 ∧ (getR l).1.Ok ∧ formed (getR l).1 = true ∧ putL (getR l).1 = l) ∨ ((getR l).2 ≠ 0 ∧ (getR l).2 ≤ 5 ∧ (getR l).1 = Ent.zero) := by
  by_cases h : (getR l).2 = 0
  · left
    have := getR_back (l := l) (e := (getR l).1) (by rw [← h])
    exact ⟨h, this⟩
  · right
    refine ⟨h, ?_⟩
    unfold getR at h ⊢
    cases hg : gEnt l with
    | error c => have := gEnt_err hg; simp; omega
    | ok p =>
      obtain ⟨f, r⟩ := p
      rw [hg] at h
      simp only at h ⊢
      split at h
      · simp at h
      · rename_i hr; rw [if_neg hr]; simp

/-! ### Cut off -/

theorem digs_pref : ∀ (m : Nat) (first : Bool) (acc : Nat) (r s : List UInt8) (n : Nat), digs m first acc (r ++ s) = .ok n → digs m first acc r = .ok n ∨ digs m first acc r = .error 2
  | 0, _, _, _, _, _, h => .inl (by simpa [digs] using h)
  | m + 1, _, _, [], _, _, _ => .inr rfl
  | m + 1, first, acc, c :: r, s, n, h => by
    simp only [List.cons_append, digs] at h ⊢
    split at h
    · cases h
    · rename_i hc
      rw [if_neg hc]
      exact digs_pref m false _ r s n h

theorem gNum_pref {r s q : List UInt8} {v : Nat} (h : gNum (r ++ s) = .ok (v, q)) : (∃ q', q = q' ++ s ∧ gNum r = .ok (v, q')) ∨ gNum r = .error 2 := by
  unfold gNum at h ⊢
  cases r with
  | nil => right; rfl
  | cons k r =>
    simp only [List.cons_append, pNum] at h ⊢
    split at h
    · rename_i n u hp
      split at hp
      · cases hp
      · rename_i hk
        rw [if_neg hk]
        cases hd : digs k.toNat true 0 (r ++ s) with
        | error c => rw [hd] at hp; cases hp
        | ok x =>
          rw [hd] at hp
          simp at hp h
          obtain ⟨rfl, rfl⟩ := hp
          rcases digs_pref _ _ _ _ _ _ hd with h1 | h1
          · left
            have hu := digs_used _ _ _ _ _ h1
            rw [h1]
            refine ⟨r.drop k.toNat, ?_, ?_⟩
            · rw [← h.2, List.drop_succ_cons, List.drop_append_of_le_length hu]
            · simp [h.1]
          · right; rw [h1]
    · cases h

theorem gByte_pref {r s q : List UInt8} {v : Nat} (h : gByte (r ++ s) = .ok (v, q)) : (∃ q', q = q' ++ s ∧ gByte r = .ok (v, q')) ∨ gByte r = .error 2 := by
  cases r with
  | nil => right; rfl
  | cons k r =>
    simp [gByte] at h
    left
    exact ⟨r, h.2.symm, by simp [gByte, h.1]⟩

theorem gText_of {most : Nat} {l r : List UInt8} {n : Nat} (h : gNum l = .ok (n, r)) : gText most l = if most < n then .error 4 else if r.length < n then .error 2 else .ok (r.take n, r.drop n) := by
  unfold gNum at h
  unfold gText pText
  cases hp : pNum l with
  | error c => rw [hp] at h; cases h
  | ok p =>
    obtain ⟨m, u⟩ := p
    rw [hp] at h
    simp at h
    obtain ⟨rfl, rfl⟩ := h
    simp only [List.length_drop]
    split
    · rename_i t u' he
      split at he
      · cases he
      · split at he
        · cases he
        · simp at he
          obtain ⟨rfl, rfl⟩ := he
          rename_i h1 h2
          rw [if_neg h1, if_neg h2, List.drop_drop]
    · rename_i c he
      split at he
      · rename_i h1; cases he; rw [if_pos h1]
      · rename_i h1
        split at he
        · rename_i h2; cases he; rw [if_neg h1, if_pos h2]
        · cases he

theorem gText_pref {most : Nat} {r s q t : List UInt8} (h : gText most (r ++ s) = .ok (t, q)) : (∃ q', q = q' ++ s ∧ gText most r = .ok (t, q')) ∨ gText most r = .error 2 := by
  cases hn : gNum (r ++ s) with
  | error c =>
    unfold gText pText at h
    unfold gNum at hn
    cases hp : pNum (r ++ s) with
    | error d => rw [hp] at h; cases h
    | ok p => rw [hp] at hn; cases hn
  | ok p =>
    obtain ⟨n, u⟩ := p
    rw [gText_of hn] at h
    rcases gNum_pref hn with ⟨q', hq, h1⟩ | h1
    · rw [gText_of h1]
      split at h
      · cases h
      · rename_i hm
        rw [if_neg hm]
        split at h
        · cases h
        · rename_i hl
          split
          · right; rfl
          · rename_i hl2
            left
            simp at h
            subst hq
            refine ⟨q'.drop n, ?_, ?_⟩
            · rw [← h.2, List.drop_append_of_le_length (by omega)]
            · rw [← h.1, List.take_append_of_le_length (by omega)]
    · right
      unfold gText pText
      unfold gNum at h1
      cases hp : pNum r with
      | error d => rw [hp] at h1; simpa using h1
      | ok p => rw [hp] at h1; cases h1

theorem gIds_pref : ∀ (n a : Nat) (r s q : List UInt8) (m : List Nat), gIds n a (r ++ s) = .ok (m, q) → (∃ q', q = q' ++ s ∧ gIds n a r = .ok (m, q')) ∨ gIds n a r = .error 2
  | 0, a, r, s, q, m, h => by
    simp [gIds] at h
    left
    exact ⟨r, h.2.symm, by simp [gIds, h.1]⟩
  | n + 1, a, r, s, q, m, h => by
    simp only [gIds] at h ⊢
    cases hn : gNum (r ++ s) with
    | error c => rw [hn] at h; cases h
    | ok p =>
      obtain ⟨x, u⟩ := p
      rw [hn] at h
      simp only at h
      rcases gNum_pref hn with ⟨q', hq, h1⟩ | h1
      · rw [h1]
        simp only
        split at h
        · rename_i hc
          rw [if_pos hc]
          subst hq
          cases hi : gIds n x (q' ++ s) with
          | error c => rw [hi] at h; cases h
          | ok p =>
            obtain ⟨ids, q2⟩ := p
            rw [hi] at h
            simp at h
            rcases gIds_pref n x q' s q2 ids hi with ⟨q3, e3, h3⟩ | h3
            · left
              rw [h3]
              exact ⟨q3, by rw [← h.2, e3], by simp [h.1]⟩
            · right; rw [h3]
        · cases h
      · right; rw [h1]

theorem gMem_pref {r s q : List UInt8} {m : List Nat} (h : gMem (r ++ s) = .ok (m, q)) : (∃ q', q = q' ++ s ∧ gMem r = .ok (m, q')) ∨ gMem r = .error 2 := by
  unfold gMem at h ⊢
  cases hn : gNum (r ++ s) with
  | error c => rw [hn] at h; cases h
  | ok p =>
    obtain ⟨x, u⟩ := p
    rw [hn] at h
    simp only at h
    rcases gNum_pref hn with ⟨q', hq, h1⟩ | h1
    · rw [h1]
      simp only
      split at h
      · rename_i hc
        rw [if_pos hc]
        subst hq
        exact gIds_pref _ _ _ _ _ _ h
      · cases h
    · right; rw [h1]

theorem gPut_pref {t : Nat} {r s q : List UInt8} {e : Ent} (h : gPut t (r ++ s) = .ok (e, q)) : (∃ q', q = q' ++ s ∧ gPut t r = .ok (e, q')) ∨ gPut t r = .error 2 := by
  unfold gPut at h ⊢
  cases hn : gNum (r ++ s) with
  | error c => rw [hn] at h; cases h
  | ok p =>
    obtain ⟨x, u⟩ := p
    rw [hn] at h
    simp only at h
    rcases gNum_pref hn with ⟨q1, e1, h1⟩ | h1
    · rw [h1]
      simp only
      subst e1
      cases hs : gNum (q1 ++ s) with
      | error c => rw [hs] at h; cases h
      | ok p =>
        obtain ⟨y, u⟩ := p
        rw [hs] at h
        simp only at h
        rcases gNum_pref hs with ⟨q2, e2, h2⟩ | h2
        · rw [h2]
          simp only
          subst e2
          cases hd : gText 64 (q2 ++ s) with
          | error c => rw [hd] at h; cases h
          | ok p =>
            obtain ⟨d, u⟩ := p
            rw [hd] at h
            simp at h
            rcases gText_pref hd with ⟨q3, e3, h3⟩ | h3
            · left
              rw [h3]
              exact ⟨q3, by rw [← h.2, e3], by simp [h.1]⟩
            · right; rw [h3]
        · right; rw [h2]
    · right; rw [h1]

theorem gEnt_pref {r s q : List UInt8} {e : Ent} (h : gEnt (r ++ s) = .ok (e, q)) : (∃ q', q = q' ++ s ∧ gEnt r = .ok (e, q')) ∨ gEnt r = .error 2 := by
  unfold gEnt at h ⊢
  cases hn : gNum (r ++ s) with
  | error c => rw [hn] at h; cases h
  | ok p =>
    obtain ⟨t, u⟩ := p
    rw [hn] at h
    simp only at h
    rcases gNum_pref hn with ⟨q1, e1, h1⟩ | h1
    · rw [h1]
      simp only
      subst e1
      split at h
      · rename_i ht
        rw [if_pos ht]
        unfold gKind at h ⊢
        cases hb : gByte (q1 ++ s) with
        | error c => rw [hb] at h; cases h
        | ok p =>
          obtain ⟨k, u⟩ := p
          rw [hb] at h
          simp only at h
          rcases gByte_pref hb with ⟨q2, e2, h2⟩ | h2
          · rw [h2]
            simp only
            subst e2
            by_cases k1 : k = 1
            · rw [if_pos k1] at h ⊢
              simp at h
              left
              exact ⟨q2, h.2.symm, by simp [h.1]⟩
            · rw [if_neg k1] at h ⊢
              by_cases k2 : k = 2
              · rw [if_pos k2] at h ⊢
                exact gPut_pref h
              · rw [if_neg k2] at h ⊢
                by_cases k3 : k = 3
                · rw [if_pos k3] at h ⊢
                  unfold gConf at h ⊢
                  cases hm : gMem (q2 ++ s) with
                  | error c => rw [hm] at h; cases h
                  | ok p =>
                    obtain ⟨m, u⟩ := p
                    rw [hm] at h
                    simp at h
                    rcases gMem_pref hm with ⟨q3, e3, h3⟩ | h3
                    · left
                      rw [h3]
                      exact ⟨q3, by rw [← h.2, e3], by simp [h.1]⟩
                    · right; rw [h3]
                · rw [if_neg k3] at h
                  cases h
          · right; rw [h2]
      · cases h
    · right; rw [h1]

theorem getR_cut (e : Ent) (hok : e.Ok) (h : formed e = true) (n : Nat) (hn : n < (putL e).length) : getR ((putL e).take n) = (Ent.zero, 2) := by
  have h0 := gEnt_lay e hok h []
  rw [List.append_nil, ← List.take_append_drop n (putL e)] at h0
  rcases gEnt_pref h0 with ⟨q, hq, h1⟩ | h1
  · have := congrArg List.length hq
    simp at this
    omega
  · unfold getR
    rw [h1]

/-- Formed entries are one just if their bytes are. -/
theorem putL_inj {e f : Ent} (he : e.Ok) (hf : f.Ok) (h1 : formed e = true) (h2 : formed f = true) (h : putL e = putL f) : e = f := by
  have a := getR_lay e he h1
  have b := getR_lay f hf h2
  rw [h, b] at a
  simpa using a.symm

end Go.Proofs.Ytboongdoggggoaa.CmdMath
