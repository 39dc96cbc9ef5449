/- Frames as plain functions: what is laid, and what is read of it. No program is named here. -/
import Derived.Test.YthaggdkfaglgaaaDoorReadMath
import Derived.Test.YthaggdkfaglgaaaDoorCrcMath
namespace Go.Proofs.YthaggdkfaglgaaaDoor.FrameMath
set_option maxRecDepth 20000
open BinMath CrcMath

/-- A text with its length ahead. -/
def rawF (t : List UInt8) : List UInt8 := numL t.length ++ t

/-- A sum's four bytes, the highest first. -/
def four (x : BitVec 32) : List UInt8 := [UInt8.ofNat (x.toNat / 16777216), UInt8.ofNat (x.toNat / 65536), UInt8.ofNat (x.toNat / 256), UInt8.ofNat x.toNat]
def sealF (l : List UInt8) : List UInt8 := four (sum l)
def frameF (t : List UInt8) : List UInt8 := rawF t ++ sealF (rawF t)
def layF (T : List (List UInt8)) : List UInt8 := (T.map frameF).flatten

theorem four_length (x : BitVec 32) : (four x).length = 4 := rfl
theorem sealF_length (l : List UInt8) : (sealF l).length = 4 := rfl
theorem frameF_length (t : List UInt8) : (frameF t).length = (numL t.length).length + t.length + 4 := by
  simp [frameF, rawF, sealF_length]
  omega

theorem four_inj {x y : BitVec 32} (h : four x = four y) : x = y := by
  unfold four at h
  have hx := x.isLt
  have hy := y.isLt
  simp only [List.cons.injEq, and_true] at h
  obtain ⟨h1, h2, h3, h4⟩ := h
  have e1 := congrArg UInt8.toNat h1
  have e2 := congrArg UInt8.toNat h2
  have e3 := congrArg UInt8.toNat h3
  have e4 := congrArg UInt8.toNat h4
  simp only [UInt8.toNat_ofNat', Nat.reducePow] at e1 e2 e3 e4
  apply BitVec.eq_of_toNat_eq
  omega

/-- The first record, and how many bytes its frame has; or the first fault. -/
def oneF (b : List UInt8) : Except Nat (List UInt8 × Nat) :=
  match pText 32768 b with
  | .error c => .error c
  | .ok (t, u) => if b.length - u < 4 then .error 2 else if (b.drop u).take 4 = sealF (b.take u) then .ok (t, u + 4) else .error 3

theorem digs_take : ∀ (m : Nat) (first : Bool) (acc : Nat) (r : List UInt8) (j : Nat), m ≤ j → digs m first acc (r.take j) = digs m first acc r
  | 0, _, _, _, _, _ => by simp [digs]
  | m + 1, first, acc, [], j, h => by simp
  | m + 1, first, acc, c :: r, 0, h => by omega
  | m + 1, first, acc, c :: r, j + 1, h => by
    simp only [List.take_succ_cons, digs]
    rw [digs_take m false _ r j (by omega)]

theorem pNum_take (l : List UInt8) : pNum (l.take 9) = pNum l := by
  cases l with
  | nil => rfl
  | cons k r =>
    simp only [List.take_succ_cons, pNum]
    by_cases h : 8 < k.toNat
    · rw [if_pos h, if_pos h]
    · rw [if_neg h, if_neg h, digs_take k.toNat true 0 r 8 (by omega)]

theorem pNum_used9 {l : List UInt8} {n u : Nat} (h : pNum l = .ok (n, u)) : u ≤ 9 := by
  rw [← pNum_take] at h
  have h1 := (pNum_used h).1
  rw [List.length_take] at h1
  omega

theorem pNum_prefix {l : List UInt8} {n u : Nat} (h : pNum l = .ok (n, u)) : l = numL n ++ l.drop u ∧ (numL n).length = u ∧ n < 18446744073709551616 := by
  have h1 := pNum_back h
  have h2 := pNum_used h
  refine ⟨by rw [h1, List.take_append_drop], by rw [h1, List.length_take]; omega, h2.2.1⟩

theorem one_err {b : List UInt8} {c : Nat} (h : pNum b = .error c) : oneF b = .error c := by
  unfold oneF pText
  rw [h]

theorem one_long {b : List UInt8} {n u : Nat} (h : pNum b = .ok (n, u)) (hn : 32768 < n) : oneF b = .error 4 := by
  unfold oneF pText
  rw [h]
  simp only [if_pos hn]

theorem one_short {b : List UInt8} {n u : Nat} (h : pNum b = .ok (n, u)) (hn : n ≤ 32768) (hl : b.length < u + n + 4) : oneF b = .error 2 := by
  have h1 := (pNum_used h).1
  unfold oneF pText
  rw [h]
  simp only [if_neg (show ¬ 32768 < n by omega)]
  by_cases h2 : b.length - u < n
  · rw [if_pos h2]
  · rw [if_neg h2]
    simp only
    rw [if_pos (by omega)]

theorem one_form {b : List UInt8} {n u : Nat} (h : pNum b = .ok (n, u)) (hn : n ≤ 32768) (hl : u + n + 4 ≤ b.length) :
    oneF b = if (b.drop (u + n)).take 4 = sealF (b.take (u + n)) then .ok ((b.drop u).take n, u + n + 4) else .error 3 := by
  unfold oneF pText
  rw [h]
  simp only [if_neg (show ¬ 32768 < n by omega), if_neg (show ¬ b.length - u < n by omega)]
  rw [if_neg (by omega)]

theorem pText_prefix {b t : List UInt8} {u : Nat} (h : pText 32768 b = .ok (t, u)) : b.take u = rawF t ∧ t.length ≤ 32768 ∧ u ≤ b.length ∧ u = (rawF t).length := by
  have h2 := pText_used h
  unfold pText at h
  cases hp : pNum b with
  | error c => rw [hp] at h; cases h
  | ok p =>
    obtain ⟨n, v⟩ := p
    rw [hp] at h
    simp only at h
    by_cases h4 : 32768 < n
    · rw [if_pos h4] at h; cases h
    rw [if_neg h4] at h
    by_cases h5 : b.length - v < n
    · rw [if_pos h5] at h; cases h
    rw [if_neg h5] at h
    simp only [Except.ok.injEq, Prod.mk.injEq] at h
    obtain ⟨rfl, rfl⟩ := h
    obtain ⟨e1, e2, e3⟩ := pNum_prefix hp
    have h6 := (pNum_used hp).1
    have el : ((b.drop v).take n).length = n := by rw [List.length_take, List.length_drop]; omega
    refine ⟨?_, h2.2.1, h2.1, ?_⟩
    · unfold rawF
      rw [el, pNum_back hp, List.take_add]
    · unfold rawF
      rw [el, List.length_append, el, e2]

theorem one_ok {b t : List UInt8} {n : Nat} (h : oneF b = .ok (t, n)) : b = frameF t ++ b.drop n ∧ n = (frameF t).length ∧ t.length ≤ 32768 ∧ n ≤ b.length ∧ 5 ≤ n := by
  unfold oneF at h
  cases hp : pText 32768 b with
  | error c => rw [hp] at h; cases h
  | ok p =>
    obtain ⟨s, u⟩ := p
    rw [hp] at h
    simp only at h
    by_cases h1 : b.length - u < 4
    · rw [if_pos h1] at h; cases h
    rw [if_neg h1] at h
    by_cases h2 : (b.drop u).take 4 = sealF (b.take u)
    · rw [if_pos h2] at h
      simp only [Except.ok.injEq, Prod.mk.injEq] at h
      obtain ⟨rfl, rfl⟩ := h
      obtain ⟨e1, e2, e3, e4⟩ := pText_prefix hp
      have ef : b.take (u + 4) = frameF s := by
        rw [List.take_add, h2, e1]
        rfl
      have hlen : (frameF s).length = u + 4 := by rw [← ef, List.length_take]; omega
      refine ⟨by rw [← ef, List.take_append_drop], hlen.symm, e2, by omega, ?_⟩
      have := numL_length s.length
      rw [frameF_length] at hlen
      omega
    · rw [if_neg h2] at h; cases h

theorem one_frame (t r : List UInt8) (ht : t.length ≤ 32768) : oneF (frameF t ++ r) = .ok (t, (frameF t).length) := by
  have hp : pNum (frameF t ++ r) = .ok (t.length, (numL t.length).length) := by
    have := pNum_numL t.length (t ++ sealF (rawF t) ++ r) (by omega)
    simpa [frameF, rawF] using this
  have hl := frameF_length t
  have hr : (rawF t).length = (numL t.length).length + t.length := by simp [rawF]
  rw [one_form hp ht (by rw [List.length_append, hl]; omega)]
  have e1 : (frameF t ++ r).take ((numL t.length).length + t.length) = rawF t := by
    rw [← hr]
    unfold frameF
    rw [List.append_assoc, List.take_left']
    rfl
  have e2 : ((frameF t ++ r).drop ((numL t.length).length + t.length)).take 4 = sealF (rawF t) := by
    rw [← hr]
    unfold frameF
    rw [List.append_assoc, List.drop_left' rfl, List.take_left' (sealF_length _)]
  have e3 : ((frameF t ++ r).drop (numL t.length).length).take t.length = t := by
    unfold frameF rawF
    rw [List.append_assoc, List.append_assoc, List.drop_left' rfl, List.take_left' rfl]
  rw [e1, e2, e3, if_pos rfl, hl]

theorem one_more {b t : List UInt8} {n : Nat} (h : oneF b = .ok (t, n)) (r : List UInt8) : oneF (b ++ r) = .ok (t, n) := by
  obtain ⟨h1, h2, h3, h4, h5⟩ := one_ok h
  rw [h1, List.append_assoc, one_frame t _ h3, h2]

theorem one_cut (t r : List UInt8) (ht : t.length ≤ 32768) (k : Nat) (hk : k < (frameF t).length) : ∃ c, oneF ((frameF t ++ r).take k) = .error c := by
  cases h : oneF ((frameF t ++ r).take k) with
  | error c => exact ⟨c, rfl⟩
  | ok p =>
    exfalso
    obtain ⟨s, n⟩ := p
    have h1 := one_more h ((frameF t ++ r).drop k)
    rw [List.take_append_drop, one_frame t r ht] at h1
    have h2 := (one_ok h).2.2.2.1
    rw [List.length_take] at h2
    simp only [Except.ok.injEq, Prod.mk.injEq] at h1
    omega

/-- One, again and again. -/
inductive Scans : List UInt8 → List (List UInt8) → Nat → Prop
  | stop {b : List UInt8} {c : Nat} : oneF b = .error c → Scans b [] 0
  | step {b t : List UInt8} {n m : Nat} {T : List (List UInt8)} : oneF b = .ok (t, n) → Scans (b.drop n) T m → Scans b (t :: T) (n + m)

theorem Scans.unique {b : List UInt8} {T T' : List (List UInt8)} {n n' : Nat} (h : Scans b T n) (h' : Scans b T' n') : T = T' ∧ n = n' := by
  induction h generalizing T' n' with
  | stop h1 => cases h' with
    | stop _ => exact ⟨rfl, rfl⟩
    | step h2 _ => rw [h1] at h2; cases h2
  | step h1 _ ih => cases h' with
    | stop h2 => rw [h1] at h2; cases h2
    | step h2 h3 =>
      rw [h1] at h2
      simp only [Except.ok.injEq, Prod.mk.injEq] at h2
      obtain ⟨rfl, rfl⟩ := h2
      obtain ⟨rfl, rfl⟩ := ih h3
      exact ⟨rfl, rfl⟩

theorem Scans.le {b : List UInt8} {T : List (List UInt8)} {n : Nat} (h : Scans b T n) : n ≤ b.length ∧ T.length ≤ n ∧ ∀ t ∈ T, t.length ≤ 32768 := by
  induction h with
  | stop _ => exact ⟨Nat.zero_le _, Nat.le_refl _, fun t ht => by simp at ht⟩
  | step h1 _ ih =>
    obtain ⟨_, _, h2, h3, h4⟩ := one_ok h1
    obtain ⟨i1, i2, i3⟩ := ih
    rw [List.length_drop] at i1
    refine ⟨by omega, by simp; omega, fun t ht => ?_⟩
    rcases List.mem_cons.1 ht with rfl | ht
    · exact h2
    · exact i3 t ht

theorem Scans.lay {r : List UInt8} {T' : List (List UInt8)} {m : Nat} (h : Scans r T' m) : ∀ T : List (List UInt8), (∀ t ∈ T, t.length ≤ 32768) → Scans (layF T ++ r) (T ++ T') ((layF T).length + m)
  | [], _ => by simpa [layF] using h
  | t :: T, ht => by
    have ih := h.lay T fun u hu => ht u (List.mem_cons_of_mem _ hu)
    have e : layF (t :: T) = frameF t ++ layF T := by simp [layF]
    rw [e, List.append_assoc, List.length_append, Nat.add_assoc]
    refine .step (one_frame t _ (ht t (by simp))) ?_
    rw [List.drop_left' rfl]
    exact ih

/-- What a scan has done so far. -/
def Done (b : List UInt8) (T : List (List UInt8)) (at_ : Nat) : Prop := at_ ≤ b.length ∧ T.length ≤ at_ ∧ (∀ T' m, Scans (b.drop at_) T' m → Scans b (T ++ T') (at_ + m))

theorem Done.start (b : List UInt8) : Done b [] 0 := ⟨Nat.zero_le _, Nat.le_refl _, fun T' m h => by simpa using h⟩

theorem Done.step {b t : List UInt8} {T : List (List UInt8)} {at_ n : Nat} (h : Done b T at_) (h1 : oneF (b.drop at_) = .ok (t, n)) : Done b (T ++ [t]) (at_ + n) := by
  obtain ⟨h2, h3, h4⟩ := h
  obtain ⟨_, _, _, i1, i2⟩ := one_ok h1
  rw [List.length_drop] at i1
  refine ⟨by omega, by simp; omega, fun T' m h5 => ?_⟩
  have h6 := h4 (t :: T') (n + m) (.step h1 (by rw [List.drop_drop]; exact h5))
  rw [List.append_assoc, Nat.add_assoc]
  exact h6

theorem Done.stop {b : List UInt8} {T : List (List UInt8)} {at_ c : Nat} (h : Done b T at_) (h1 : oneF (b.drop at_) = .error c) : Scans b T at_ := by
  simpa using h.2.2 [] 0 (.stop h1)

/-- How many of the frames are whole where all is cut off at a place. -/
theorem Scans.cut {T : List (List UInt8)} {w at_ : Nat} (hT : ∀ t ∈ T, t.length ≤ 32768) (h1 : (layF (T.take w)).length ≤ at_) (h2 : ∀ t, T[w]? = some t → at_ < (layF (T.take w)).length + (frameF t).length) (h3 : w = T.length → at_ = (layF T).length) :
    Scans ((layF T).take at_) (T.take w) (layF (T.take w)).length := by
  have e : layF T = layF (T.take w) ++ layF (T.drop w) := by
    unfold layF
    rw [← List.flatten_append, ← List.map_append, List.take_append_drop]
  obtain ⟨k, rfl⟩ : ∃ k, at_ = (layF (T.take w)).length + k := ⟨at_ - (layF (T.take w)).length, by omega⟩
  rw [e, List.take_append, List.take_of_length_le (by omega), Nat.add_sub_cancel_left]
  have hs : ∃ c, oneF ((layF (T.drop w)).take k) = .error c := by
    rcases Nat.lt_or_ge w T.length with hlt | hge
    · have hd : T.drop w = T[w] :: T.drop (w + 1) := List.drop_eq_getElem_cons hlt
      have := h2 T[w] (List.getElem?_eq_getElem hlt)
      have e2 : layF (T.drop w) = frameF T[w] ++ layF (T.drop (w + 1)) := by
        rw [hd]
        unfold layF
        rw [List.map_cons, List.flatten_cons]
      rw [e2]
      exact one_cut _ _ (hT _ (List.getElem_mem hlt)) k (by omega)
    · rw [List.drop_of_length_le hge]
      exact ⟨2, by simp [layF, oneF, pText, pNum]⟩
  obtain ⟨c, hc⟩ := hs
  have := (Scans.stop hc).lay (T.take w) fun t ht => hT t (List.mem_of_mem_take ht)
  simpa using this

/-- A byte that is turned changes the sum. -/
theorem sum_turn (l : List UInt8) (q : Nat) (y z : UInt8) (hq : l[q]? = some y) (h : sum (l.set q z) = sum l) : z = y := by
  obtain ⟨hlt, rfl⟩ := List.getElem?_eq_some_iff.1 hq
  have e1 : l = l.take q ++ l[q] :: l.drop (q + 1) := by rw [← List.drop_eq_getElem_cons hlt, List.take_append_drop]
  have e2 : l.set q z = l.take q ++ z :: l.drop (q + 1) := by rw [List.set_eq_take_append_cons_drop, if_pos hlt]
  obtain ⟨p, hp⟩ : ∃ p, p = l.take q := ⟨_, rfl⟩
  obtain ⟨r, hr⟩ : ∃ r, r = l.drop (q + 1) := ⟨_, rfl⟩
  obtain ⟨y, hy⟩ : ∃ y, y = l[q] := ⟨_, rfl⟩
  rw [← hp, ← hr] at e1 e2
  rw [← hy] at e1 ⊢
  rw [e2, e1] at h
  clear e1 e2 hp hr hy hq hlt
  have h0 := h
  unfold sum more at h0
  have h1 : R (p ++ z :: r) (~~~ 0#32) = R (p ++ y :: r) (~~~ 0#32) := by
    have := congrArg (~~~ ·) h0
    simpa only [BitVec.not_not] using this
  rw [R_append, R_append] at h1
  unfold R at h1
  obtain ⟨c, hc⟩ : ∃ c, c = R p (~~~ 0#32) := ⟨_, rfl⟩
  rw [← hc] at h1
  have h2 : P 8 (c ^^^ zx z) ^^^ P 8 (c ^^^ zx y) = 0#32 := by
    apply P_inj (8 * r.length)
    have h3 := R_xor r (P 8 (c ^^^ zx z)) (P 8 (c ^^^ zx z) ^^^ P 8 (c ^^^ zx y))
    rw [← BitVec.xor_assoc, BitVec.xor_self, BitVec.zero_xor, ← h1] at h3
    have h4 : R r (P 8 (c ^^^ zx z)) ^^^ R r (P 8 (c ^^^ zx z)) = R r (P 8 (c ^^^ zx z)) ^^^ (R r (P 8 (c ^^^ zx z)) ^^^ P (8 * r.length) (P 8 (c ^^^ zx z) ^^^ P 8 (c ^^^ zx y))) := by rw [← h3]
    rw [BitVec.xor_self, ← BitVec.xor_assoc, BitVec.xor_self, BitVec.zero_xor] at h4
    exact h4.symm
  rw [← P_xor] at h2
  have h5 := P_inj 8 _ h2
  have h6 : zx z = zx y := by
    have h7 : (c ^^^ zx z) ^^^ (c ^^^ zx y) = zx z ^^^ zx y := by
      rw [xor4, BitVec.xor_self, BitVec.zero_xor]
    rw [h7] at h5
    have h8 := congrArg (· ^^^ zx y) h5
    simp only [BitVec.xor_assoc, BitVec.xor_self, BitVec.xor_zero, BitVec.zero_xor] at h8
    exact h8
  have h9 := congrArg BitVec.toNat h6
  unfold zx at h9
  rw [BitVec.toNat_ofNat, BitVec.toNat_ofNat] at h9
  have hz := z.toNat_lt
  have hy := y.toNat_lt
  apply UInt8.toNat_inj.1
  omega

/-- A frame with one byte of its record, or of its sum, turned is none. -/
theorem one_turned (t r : List UInt8) (ht : t.length ≤ 32768) (q : Nat) (y z : UInt8) (hq : (t ++ sealF (rawF t))[q]? = some y) (hne : z ≠ y) : ∃ c, oneF (numL t.length ++ (t ++ sealF (rawF t)).set q z ++ r) = .error c := by
  cases h : oneF (numL t.length ++ (t ++ sealF (rawF t)).set q z ++ r) with
  | error c => exact ⟨c, rfl⟩
  | ok p =>
    exfalso
    obtain ⟨s, n⟩ := p
    obtain ⟨h1, h2, h3, h4, h5⟩ := one_ok h
    have hp1 := pNum_numL t.length ((t ++ sealF (rawF t)).set q z ++ r) (by omega)
    have hp2 := pNum_numL s.length (s ++ sealF (rawF s) ++ List.drop n (numL t.length ++ (t ++ sealF (rawF t)).set q z ++ r)) (by omega)
    obtain ⟨d, hd⟩ : ∃ d, d = List.drop n (numL t.length ++ (t ++ sealF (rawF t)).set q z ++ r) := ⟨_, rfl⟩
    rw [← hd] at h1 hp2
    obtain ⟨g, hg⟩ : ∃ g, g = (t ++ sealF (rawF t)).set q z := ⟨_, rfl⟩
    rw [← hg] at h1 hp1
    have e : numL s.length ++ (s ++ sealF (rawF s) ++ d) = numL t.length ++ (g ++ r) := by
      rw [← List.append_assoc (numL t.length), h1]
      unfold frameF
      rw [show rawF s = numL s.length ++ s from rfl]
      simp only [List.append_assoc]
    rw [e, hp1] at hp2
    simp only [Except.ok.injEq, Prod.mk.injEq] at hp2
    have hl : t.length = s.length := hp2.1
    rw [hl] at e
    have e2 := List.append_cancel_left e
    rw [hg] at e2
    clear hd h1 hg
    have hlen : (s ++ sealF (rawF s)).length = ((t ++ sealF (rawF t)).set q z).length := by
      simp [sealF_length, hl]
    have e3 := (List.append_inj e2 hlen).1
    rcases Nat.lt_or_ge q t.length with hlt | hge
    · rw [List.set_append_left _ _ hlt] at e3
      obtain ⟨e4, e5⟩ := List.append_inj e3 (by simp [hl])
      subst e4
      have e6 := four_inj e5
      rw [List.getElem?_append_left hlt] at hq
      have e7 : rawF (t.set q z) = (rawF t).set ((numL t.length).length + q) z := by
        unfold rawF
        rw [List.set_append_right _ _ (by omega), List.length_set, Nat.add_sub_cancel_left]
      rw [e7] at e6
      refine hne (sum_turn _ _ y z ?_ e6)
      unfold rawF
      rw [List.getElem?_append_right (by omega), Nat.add_sub_cancel_left]
      exact hq
    · rw [List.set_append_right _ _ hge] at e3
      obtain ⟨e4, e5⟩ := List.append_inj e3 hl.symm
      subst e4
      rw [List.getElem?_append_right hge] at hq
      have hlt := (List.getElem?_eq_some_iff.1 hq).1
      have e6 : ((sealF (rawF s)).set (q - s.length) z)[q - s.length]? = some z := by
        rw [List.getElem?_set_self hlt]
      rw [← e5, hq] at e6
      exact hne (Option.some.inj e6).symm

theorem one_text {b t : List UInt8} {u : Nat} (h : pText 32768 b = .ok (t, u)) (hl : u + 4 ≤ b.length) : oneF b = if (frameF t == b.take (u + 4)) = true then .ok (t, u + 4) else .error 3 := by
  obtain ⟨h1, h2, h3, h4⟩ := pText_prefix h
  have e : frameF t = b.take (u + 4) ↔ (b.drop u).take 4 = sealF (b.take u) := by
    rw [List.take_add, h1, frameF, List.append_cancel_left_eq]
    exact eq_comm
  unfold oneF
  rw [h]
  simp only [if_neg (show ¬ b.length - u < 4 by omega), beq_iff_eq, e]

theorem one_text_short {b t : List UInt8} {u : Nat} (h : pText 32768 b = .ok (t, u)) (hl : b.length < u + 4) : oneF b = .error 2 := by
  unfold oneF
  rw [h]
  simp only [if_pos (show b.length - u < 4 by omega)]

theorem one_text_err {b : List UInt8} {c : Nat} (h : pText 32768 b = .error c) : oneF b = .error c := by
  unfold oneF
  rw [h]

theorem one_big (t : List UInt8) (h : 32768 < t.length) (h2 : t.length < 18446744073709551616) : oneF (frameF t) = .error 4 := by
  have hp : pNum (frameF t) = .ok (t.length, (numL t.length).length) := by
    have := pNum_numL t.length (t ++ sealF (rawF t)) h2
    simpa [frameF, rawF] using this
  exact one_long hp h

theorem one_fault {b : List UInt8} {c : Nat} (h : oneF b = .error c) : 2 ≤ c ∧ c ≤ 4 := by
  unfold oneF at h
  cases hp : pText 32768 b with
  | error d =>
    rw [hp] at h
    simp only [Except.error.injEq] at h
    subst h
    unfold pText at hp
    cases hn : pNum b with
    | error e =>
      rw [hn] at hp
      simp only [Except.error.injEq] at hp
      subst hp
      have := pNum_err hn
      omega
    | ok p =>
      obtain ⟨n, u⟩ := p
      rw [hn] at hp
      simp only at hp
      split at hp
      · simp only [Except.error.injEq] at hp; omega
      · split at hp
        · simp only [Except.error.injEq] at hp; omega
        · cases hp
  | ok p =>
    obtain ⟨t, u⟩ := p
    rw [hp] at h
    simp only at h
    split at h
    · simp only [Except.error.injEq] at h; omega
    · split at h
      · cases h
      · simp only [Except.error.injEq] at h; omega

theorem frameF_le (t : List UInt8) (h : t.length ≤ 32768) : (frameF t).length ≤ 32781 := by
  have h1 := numL_length t.length
  have h2 := nb_le t.length (by omega)
  rw [frameF_length]
  omega

theorem layF_le : ∀ T : List (List UInt8), (∀ t ∈ T, t.length ≤ 32768) → (layF T).length ≤ T.length * 32781
  | [], _ => by simp [layF]
  | t :: T, h => by
    have h1 := frameF_le t (h t (by simp))
    have h2 := layF_le T fun u hu => h u (List.mem_cons_of_mem _ hu)
    have e : layF (t :: T) = frameF t ++ layF T := by simp [layF]
    rw [e, List.length_append, List.length_cons, Nat.add_mul, Nat.one_mul]
    omega

theorem layF_snoc (T : List (List UInt8)) (i : Nat) (t : List UInt8) (h : T[i]? = some t) : layF (T.take (i + 1)) = layF (T.take i) ++ frameF t := by
  obtain ⟨hi, rfl⟩ := List.getElem?_eq_some_iff.1 h
  unfold layF
  rw [List.take_succ_eq_append_getElem hi, List.map_append, List.flatten_append]
  simp only [List.map_cons, List.map_nil, List.flatten_cons, List.flatten_nil, List.append_nil]

end Go.Proofs.YthaggdkfaglgaaaDoor.FrameMath
