/- How bytes are read: numbers and texts, with their first faults. No program is named here. -/
import Derived.Test.YthaggdkfaglgaaaDoorBinMath
namespace Go.Proofs.YthaggdkfaglgaaaDoor.BinMath
set_option maxRecDepth 20000

/-- m bytes more of a number, of which acc was read. -/
def digs : Nat → Bool → Nat → List UInt8 → Except Nat Nat
  | 0, _, acc, _ => .ok acc
  | _ + 1, _, _, [] => .error 2
  | m + 1, first, acc, c :: r => if first && c.toNat == 0 then .error 3 else digs m false (acc * 256 + c.toNat) r

/-- A number, and how many bytes it took; or the first fault. -/
def pNum : List UInt8 → Except Nat (Nat × Nat)
  | [] => .error 2
  | k :: r => if 8 < k.toNat then .error 3 else match digs k.toNat true 0 r with
    | .ok n => .ok (n, k.toNat + 1)
    | .error c => .error c

/-- A text of at most 'most' bytes, and how many bytes it took with its length; or the first fault. -/
def pText (most : Nat) (l : List UInt8) : Except Nat (List UInt8 × Nat) :=
  match pNum l with
  | .error c => .error c
  | .ok (n, u) => if most < n then .error 4 else if l.length - u < n then .error 2 else .ok ((l.drop u).take n, u + n)

theorem digs_used : ∀ (m : Nat) (first : Bool) (acc : Nat) (r : List UInt8) (n : Nat), digs m first acc r = .ok n → m ≤ r.length
  | 0, _, _, _, _, _ => Nat.zero_le _
  | m + 1, first, acc, [], n, h => by simp [digs] at h
  | m + 1, first, acc, c :: r, n, h => by
    unfold digs at h
    split at h
    · cases h
    · have := digs_used m false _ r n h
      simp; omega

theorem digs_lt : ∀ (m : Nat) (first : Bool) (acc : Nat) (r : List UInt8) (n j : Nat), acc < 256 ^ j → digs m first acc r = .ok n → n < 256 ^ (j + m)
  | 0, _, acc, _, n, j, ha, h => by simp [digs] at h; subst h; simpa using ha
  | m + 1, first, acc, [], n, j, ha, h => by simp [digs] at h
  | m + 1, first, acc, c :: r, n, j, ha, h => by
    unfold digs at h
    split at h
    · cases h
    · have hc := c.toNat_lt
      have := digs_lt m false (acc * 256 + c.toNat) r n (j + 1) (by rw [Nat.pow_succ]; omega) h
      rwa [show j + (m + 1) = j + 1 + m by omega]

theorem pNum_used {l : List UInt8} {n u : Nat} (h : pNum l = .ok (n, u)) : u ≤ l.length ∧ n < 18446744073709551616 ∧ 1 ≤ u := by
  cases l with
  | nil => simp [pNum] at h
  | cons k r =>
    simp only [pNum] at h
    split at h
    · cases h
    · rename_i hk
      cases hd : digs k.toNat true 0 r with
      | error c => rw [hd] at h; cases h
      | ok m =>
        rw [hd] at h
        simp at h
        obtain ⟨rfl, rfl⟩ := h
        have h1 := digs_used _ _ _ _ _ hd
        have h2 := digs_lt _ _ _ _ _ 0 (by simp) hd
        refine ⟨by simp; omega, ?_, by omega⟩
        refine Nat.lt_of_lt_of_le h2 ?_
        rw [Nat.zero_add, show (18446744073709551616 : Nat) = 256 ^ 8 by decide]
        exact Nat.pow_le_pow_right (by decide) (by omega)

theorem pText_used {most : Nat} {l t : List UInt8} {u : Nat} (h : pText most l = .ok (t, u)) : u ≤ l.length ∧ t.length ≤ most ∧ t.length ≤ l.length := by
  unfold pText at h
  cases hn : pNum l with
  | error c => rw [hn] at h; cases h
  | ok p =>
    obtain ⟨n, v⟩ := p
    rw [hn] at h
    have hu := pNum_used hn
    simp only at h
    split at h
    · cases h
    · split at h
      · cases h
      · simp at h
        obtain ⟨rfl, rfl⟩ := h
        simp
        omega

/-- Reading what Num laid. -/
theorem digs_be (k : Nat) : ∀ (m n acc : Nat) (first : Bool) (r : List UInt8), m = k → (first = true → k ≠ 0 → 256 ^ (k - 1) ≤ n) → n < 256 ^ k → digs m first acc (be k n ++ r) = .ok (acc * 256 ^ k + n) := by
  induction k with
  | zero => intro m n acc first r hm _ hn; subst hm; simp at hn; subst hn; simp [digs]
  | succ k ih =>
    intro m n acc first r hm hf hn
    subst hm
    have ht := top_lt k n hn
    have hp : 0 < 256 ^ k := Nat.pow_pos (by decide)
    have hdm := Nat.div_add_mod n (256 ^ k)
    have hml := Nat.mod_lt n hp
    have hb : (UInt8.ofNat (n / 256 ^ k % 256)).toNat = n / 256 ^ k := by simp [Nat.mod_eq_of_lt ht]
    simp only [be, List.cons_append, digs, hb]
    have hne : (first && n / 256 ^ k == 0) = false := by
      cases first with
      | false => rfl
      | true =>
        have := hf rfl (by omega)
        rw [Nat.add_sub_cancel] at this
        have : 1 ≤ n / 256 ^ k := (Nat.le_div_iff_mul_le hp).2 (by omega)
        simp; omega
    rw [hne]
    simp only [Bool.false_eq_true, if_false]
    rw [← be_mod k n k (Nat.le_refl _), ih k (n % 256 ^ k) _ false r rfl (by simp) hml]
    congr 1
    rw [Nat.pow_succ, Nat.add_mul]
    have e1 : acc * 256 * 256 ^ k = acc * (256 ^ k * 256) := by rw [Nat.mul_assoc, Nat.mul_comm 256]
    rw [e1, Nat.add_assoc]
    congr 1
    rw [Nat.mul_comm (n / 256 ^ k)]
    exact hdm

theorem pNum_numL (n : Nat) (r : List UInt8) (hn : n < 18446744073709551616) : pNum (numL n ++ r) = .ok (n, (numL n).length) := by
  have h8 := nb_le n hn
  have hk : (UInt8.ofNat (nb n)).toNat = nb n := by simp; omega
  obtain ⟨h1, h2⟩ := nb_spec n hn
  have hd := digs_be (nb n) (nb n) n 0 true r rfl (fun _ h0 => (h2 (by rintro rfl; rw [nb_zero] at h0; exact h0 rfl)).2) h1
  rw [Nat.zero_mul, Nat.zero_add] at hd
  rw [numL_length]
  simp only [numL, List.cons_append, pNum, hk, hd]
  rw [if_neg (by omega)]

theorem pText_rawL (t r : List UInt8) (ht : t.length < 18446744073709551616) (most : Nat) (hm : t.length ≤ most) : pText most (numL t.length ++ (t ++ r)) = .ok (t, (numL t.length).length + t.length) := by
  unfold pText
  rw [pNum_numL _ _ ht]
  simp only
  rw [if_neg (by omega), if_neg (by simp), List.drop_left, List.take_left]

/-- Bytes that are read as a number are its bytes. -/
theorem digs_back : ∀ (m : Nat) (first : Bool) (acc : Nat) (r : List UInt8) (n : Nat), digs m first acc r = .ok n → ∃ x, n = acc * 256 ^ m + x ∧ x < 256 ^ m ∧ r.take m = be m x ∧ (first = true → m ≠ 0 → 256 ^ (m - 1) ≤ x)
  | 0, _, acc, _, n, h => by simp [digs] at h; exact ⟨0, by omega, by simp, by simp [be], by simp⟩
  | m + 1, first, acc, [], n, h => by simp [digs] at h
  | m + 1, first, acc, c :: r, n, h => by
    unfold digs at h
    split at h
    · cases h
    · rename_i hc
      obtain ⟨x, h1, h2, h3, _⟩ := digs_back m false _ r n h
      have hcl := c.toNat_lt
      have hp : 0 < 256 ^ m := Nat.pow_pos (by decide)
      have hdiv : (c.toNat * 256 ^ m + x) / 256 ^ m = c.toNat := by rw [Nat.mul_comm, Nat.mul_add_div hp, Nat.div_eq_of_lt h2, Nat.add_zero]
      refine ⟨c.toNat * 256 ^ m + x, ?_, ?_, ?_, ?_⟩
      · rw [h1, Nat.add_mul, Nat.pow_succ, Nat.add_assoc]
        congr 1
        rw [Nat.mul_assoc, Nat.mul_comm 256]
      · rw [Nat.pow_succ]
        have : c.toNat * 256 ^ m ≤ 255 * 256 ^ m := Nat.mul_le_mul_right _ (by omega)
        omega
      · simp only [List.take_succ_cons, be]
        rw [hdiv]
        have e1 : UInt8.ofNat (c.toNat % 256) = c := by
          rw [Nat.mod_eq_of_lt hcl]; simp
        rw [e1, h3]
        congr 1
        rw [← be_mod m (c.toNat * 256 ^ m + x) m (Nat.le_refl _), Nat.mul_comm, Nat.mul_add_mod, Nat.mod_eq_of_lt h2]
      · intro hf _
        subst hf
        rw [Nat.add_sub_cancel]
        have : 1 ≤ c.toNat := by
          simp at hc
          have : c.toNat ≠ 0 := by exact hc
          omega
        have := Nat.mul_le_mul_right (256 ^ m) this
        omega

theorem pNum_back {l : List UInt8} {n u : Nat} (h : pNum l = .ok (n, u)) : numL n = l.take u := by
  have hlt := (pNum_used h).2.1
  cases l with
  | nil => simp [pNum] at h
  | cons k r =>
    simp only [pNum] at h
    split at h
    · cases h
    · rename_i hk
      cases hd : digs k.toNat true 0 r with
      | error c => rw [hd] at h; cases h
      | ok m =>
        rw [hd] at h
        simp at h
        obtain ⟨rfl, rfl⟩ := h
        obtain ⟨x, h1, h2, h3, h4⟩ := digs_back _ _ _ _ _ hd
        rw [Nat.zero_mul, Nat.zero_add] at h1
        subst h1
        have hnb : nb m = k.toNat := nb_unique m _ hlt h2 (h4 rfl)
        rw [List.take_succ_cons, h3, numL, hnb]
        congr 1
        simp

/-- What a reader answers that stands at k of the bytes l, stuck by st (0: it isn't): the value, the error, the place behind. The error is what it is stuck by from then on. -/
def byteS (l : List UInt8) (k st : Nat) : Nat × Nat × Nat := if st ≠ 0 then (0, st, k) else match l.drop k with
  | [] => (0, 2, k)
  | c :: _ => (c.toNat, 0, k + 1)

def numS (l : List UInt8) (k st : Nat) : Nat × Nat × Nat := if st ≠ 0 then (0, st, k) else match pNum (l.drop k) with
  | .ok (n, u) => (n, 0, k + u)
  | .error c => (0, c, k)

def textS (l : List UInt8) (most k st : Nat) : List UInt8 × Nat × Nat := if st ≠ 0 then ([], st, k) else match pText most (l.drop k) with
  | .ok (t, u) => (t, 0, k + u)
  | .error c => ([], c, k)

def endS (l : List UInt8) (k st : Nat) : Nat := if st ≠ 0 then st else if k < l.length then 5 else 0

theorem digs_err : ∀ (m : Nat) (first : Bool) (acc : Nat) (r : List UInt8) (c : Nat), digs m first acc r = .error c → c = 2 ∨ c = 3
  | 0, _, _, _, _, h => by simp [digs] at h
  | m + 1, first, acc, [], c, h => by simp [digs] at h; exact .inl h.symm
  | m + 1, first, acc, x :: r, c, h => by
    unfold digs at h
    split at h
    · cases h; exact .inr rfl
    · exact digs_err m false _ r c h

theorem pNum_err {l : List UInt8} {c : Nat} (h : pNum l = .error c) : c = 2 ∨ c = 3 := by
  cases l with
  | nil => simp [pNum] at h; exact .inl h.symm
  | cons k r =>
    simp only [pNum] at h
    split at h
    · cases h; exact .inr rfl
    · cases hd : digs k.toNat true 0 r with
      | ok m => rw [hd] at h; cases h
      | error d => rw [hd] at h; cases h; exact digs_err _ _ _ _ _ hd

/-- A number that is read at the beginning: its bytes are the first ones; or nothing is read. -/
theorem numS_zero {l : List UInt8} {n c k : Nat} (h : numS l 0 0 = (n, c, k)) : n < 18446744073709551616 ∧ (c = 0 → numL n = l.take k) ∧ (c ≠ 0 → n = 0 ∧ k = 0) := by
  unfold numS at h
  simp only [ne_eq, not_true_eq_false, if_false, List.drop_zero] at h
  cases hp : pNum l with
  | ok p =>
    obtain ⟨m, u⟩ := p
    rw [hp] at h
    simp at h
    obtain ⟨rfl, rfl, rfl⟩ := h
    exact ⟨(pNum_used hp).2.1, fun _ => pNum_back hp, fun h => absurd rfl h⟩
  | error d =>
    rw [hp] at h
    simp at h
    obtain ⟨rfl, rfl, rfl⟩ := h
    refine ⟨by omega, fun h0 => ?_, fun _ => ⟨rfl, rfl⟩⟩
    have := pNum_err hp
    omega

end Go.Proofs.YthaggdkfaglgaaaDoor.BinMath
