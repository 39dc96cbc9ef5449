/- Joined: BinMath, ReadMath, CmdMath. -/
import Derived.Lib.BitFns
import Derived.Laws.Strings
/- Plain facts on the bytes of a number: what layer 1 lays, as lists. No program is named here. -/
namespace Go.Proofs.Ytgbhfolbkgibfaa.BinMath
set_option maxRecDepth 20000

/-- How many bytes a number takes. -/
def nb (n : Nat) : Nat := (Lib.bitLen n + 7) / 8

/-- The lowest k bytes of a number, the highest first. -/
def be : Nat → Nat → List UInt8
  | 0, _ => []
  | k + 1, n => UInt8.ofNat (n / 256 ^ k % 256) :: be k n

/-- The bytes of a number. -/
def numL (n : Nat) : List UInt8 := UInt8.ofNat (nb n) :: be (nb n) n

theorem be_length (k n : Nat) : (be k n).length = k := by
  induction k with
  | zero => rfl
  | succ k ih => simp [be, ih]

theorem numL_length (n : Nat) : (numL n).length = nb n + 1 := by simp [numL, be_length]

theorem nb_zero : nb 0 = 0 := by decide

theorem two_pow_eight (k : Nat) : 2 ^ (8 * k) = 256 ^ k := by
  rw [Nat.pow_mul]

theorem bl_spec (m : Nat) : ∀ n, n ≤ m → n < 18446744073709551616 → n < 2 ^ Lib.bitLen n ∧ (n ≠ 0 → 2 ^ (Lib.bitLen n - 1) ≤ n) := by
  induction m with
  | zero => intro n h _; obtain rfl : n = 0 := by omega
            decide
  | succ m ih =>
    intro n h hn
    by_cases h0 : n = 0
    · subst h0; decide
    · have e := Lib.bitLen_half n h0 hn
      obtain ⟨a, b⟩ := ih (n / 2) (by omega) (by omega)
      rw [e, Nat.add_sub_cancel_left, Nat.pow_add, Nat.pow_one]
      refine ⟨by omega, fun _ => ?_⟩
      by_cases h2 : n / 2 = 0
      · have e0 : Lib.bitLen 0 = 0 := by decide
        rw [h2, e0, Nat.pow_zero]; omega
      · have b2 := b h2
        have hp : 1 ≤ Lib.bitLen (n / 2) := by
          rcases Nat.eq_zero_or_pos (Lib.bitLen (n / 2)) with q | q
          · rw [q] at a; omega
          · exact q
        have e2 : 2 ^ Lib.bitLen (n / 2) = 2 * 2 ^ (Lib.bitLen (n / 2) - 1) := by
          rw [← Nat.pow_succ']; congr 1; omega
        omega

theorem nb_spec (n : Nat) (hlt : n < 18446744073709551616) : n < 256 ^ nb n ∧ (n ≠ 0 → 1 ≤ nb n ∧ 256 ^ (nb n - 1) ≤ n) := by
  have h := bl_spec n n (Nat.le_refl _) hlt
  unfold nb
  constructor
  · refine Nat.lt_of_lt_of_le h.1 ?_
    rw [← two_pow_eight]
    exact Nat.pow_le_pow_right (by decide) (by omega)
  · intro hn
    have h2 := h.2 hn
    have hb : 1 ≤ Lib.bitLen n := by
      rcases Nat.eq_zero_or_pos (Lib.bitLen n) with h0 | h0
      · rw [h0] at h; simp at h; omega
      · exact h0
    refine ⟨by omega, Nat.le_trans ?_ h2⟩
    rw [← two_pow_eight]
    exact Nat.pow_le_pow_right (by decide) (by omega)

theorem nb_unique (n k : Nat) (hlt : n < 18446744073709551616) (h1 : n < 256 ^ k) (h2 : k ≠ 0 → 256 ^ (k - 1) ≤ n) : nb n = k := by
  obtain ⟨a, b⟩ := nb_spec n hlt
  rcases Nat.lt_trichotomy (nb n) k with h | h | h
  · have := h2 (by omega)
    have h3 : 256 ^ nb n ≤ 256 ^ (k - 1) := Nat.pow_le_pow_right (by decide) (by omega)
    omega
  · exact h
  · have hn : n ≠ 0 := by rintro rfl; rw [nb_zero] at h; omega
    have := (b hn).2
    have h3 : 256 ^ k ≤ 256 ^ (nb n - 1) := Nat.pow_le_pow_right (by decide) (by omega)
    omega

theorem nb_le (n : Nat) (h : n < 18446744073709551616) : nb n ≤ 8 := by
  rcases Nat.lt_or_ge 8 (nb n) with h8 | h8
  · have hn : n ≠ 0 := by rintro rfl; rw [nb_zero] at h8; omega
    have := ((nb_spec n h).2 hn).2
    have h3 : 256 ^ 8 ≤ 256 ^ (nb n - 1) := Nat.pow_le_pow_right (by decide) (by omega)
    have h4 : (256 : Nat) ^ 8 = 18446744073709551616 := by decide
    omega
  · exact h8

theorem nb_mono {a b : Nat} (ha' : a < 18446744073709551616) (hb' : b < 18446744073709551616) (h : nb a < nb b) : a < b := by
  have ha := (nb_spec a ha').1
  have hb0 : b ≠ 0 := by rintro rfl; rw [nb_zero] at h; omega
  have hb := ((nb_spec b hb').2 hb0).2
  have h3 : 256 ^ nb a ≤ 256 ^ (nb b - 1) := Nat.pow_le_pow_right (by decide) (by omega)
  omega

/-- One store of the loop: place i of a row whose first i places behind the head are still 0. -/
theorem set_rep {α : Type} (x z b : α) (L : List α) (i : Nat) :
    (x :: (List.replicate (i + 1) z ++ L)).set (i + 1) b = x :: (List.replicate i z ++ b :: L) := by
  simp only [List.set_cons_succ, List.cons.injEq, true_and]
  rw [List.replicate_succ', List.append_assoc]
  rw [List.set_append_right _ _ (by simp)]
  simp

/-! ### Order -/
open Op (bytesLess)

theorem u8_lt (a b : Nat) (ha : a < 256) (hb : b < 256) : UInt8.ofNat a < UInt8.ofNat b ↔ a < b := by
  rw [UInt8.lt_iff_toNat_lt]; simp [Nat.mod_eq_of_lt ha, Nat.mod_eq_of_lt hb]

theorem u8_eq (a b : Nat) (ha : a < 256) (hb : b < 256) : UInt8.ofNat a = UInt8.ofNat b ↔ a = b := by
  constructor
  · intro h
    have := congrArg UInt8.toNat h
    simpa [Nat.mod_eq_of_lt ha, Nat.mod_eq_of_lt hb] using this
  · rintro rfl; rfl

theorem be_mod (k n : Nat) (m : Nat) (h : k ≤ m) : be k (n % 256 ^ m) = be k n := by
  induction k with
  | zero => rfl
  | succ k ih =>
    simp only [be]
    rw [ih (by omega)]
    congr 2
    have e : 256 ^ m = 256 ^ k * 256 ^ (m - k) := by rw [← Nat.pow_add]; congr 1; omega
    rw [e, Nat.mod_mul_right_div_self]
    have e2 : 256 ^ (m - k) = 256 * 256 ^ (m - k - 1) := by
      rw [show m - k = (m - k - 1) + 1 by omega, Nat.pow_succ, Nat.mul_comm]; rfl
    rw [e2, Nat.mod_mul_right_mod]

theorem top_lt (k n : Nat) (h : n < 256 ^ (k + 1)) : n / 256 ^ k < 256 := by
  rw [Nat.div_lt_iff_lt_mul (Nat.pow_pos (by decide))]
  rwa [Nat.pow_succ, Nat.mul_comm] at h

theorem less_be (k : Nat) : ∀ a b : Nat, a < 256 ^ k → b < 256 ^ k → bytesLess (be k a) (be k b) = decide (a < b) := by
  induction k with
  | zero => intro a b ha hb; simp at ha hb; subst ha hb; rfl
  | succ k ih =>
    intro a b ha hb
    have ta := top_lt k a ha
    have tb := top_lt k b hb
    have hp : 0 < 256 ^ k := Nat.pow_pos (by decide)
    have ea := Nat.div_add_mod a (256 ^ k)
    have eb := Nat.div_add_mod b (256 ^ k)
    have la := Nat.mod_lt a hp
    have lb := Nat.mod_lt b hp
    simp only [be, bytesLess]
    rw [Nat.mod_eq_of_lt ta, Nat.mod_eq_of_lt tb]
    rcases Nat.lt_trichotomy (a / 256 ^ k) (b / 256 ^ k) with h | h | h
    · rw [decide_eq_true ((u8_lt _ _ ta tb).2 h), Bool.true_or]
      have h1 : (a / 256 ^ k + 1) * 256 ^ k ≤ b / 256 ^ k * 256 ^ k := Nat.mul_le_mul_right _ h
      have : a < b := by rw [Nat.add_mul] at h1; rw [Nat.mul_comm (256 ^ k)] at ea eb; omega
      simp [this]
    · rw [h, decide_eq_false (by rw [u8_lt _ _ tb tb]; omega), beq_self_eq_true, Bool.true_and, Bool.false_or]
      rw [← be_mod k a k (Nat.le_refl _), ← be_mod k b k (Nat.le_refl _), ih _ _ la lb]
      have : a % 256 ^ k < b % 256 ^ k ↔ a < b := by rw [h] at ea; omega
      simp [this]
    · rw [decide_eq_false (by rw [u8_lt _ _ ta tb]; omega), beq_eq_false_iff_ne.2 (by rw [Ne, u8_eq _ _ ta tb]; omega), Bool.false_and, Bool.false_or]
      have h1 : (b / 256 ^ k + 1) * 256 ^ k ≤ a / 256 ^ k * 256 ^ k := Nat.mul_le_mul_right _ h
      have : ¬ a < b := by rw [Nat.add_mul] at h1; rw [Nat.mul_comm (256 ^ k)] at ea eb; omega
      simp [this]

/-- The bytes of the lesser number are the lesser. -/
theorem less_numL (a b : Nat) (ha : a < 18446744073709551616) (hb : b < 18446744073709551616) : bytesLess (numL a) (numL b) = decide (a < b) := by
  have na := nb_le a ha
  have nb' := nb_le b hb
  simp only [numL, bytesLess]
  rcases Nat.lt_trichotomy (nb a) (nb b) with h | h | h
  · rw [decide_eq_true ((u8_lt _ _ (by omega) (by omega)).2 h), Bool.true_or]
    simp [nb_mono ha hb h]
  · rw [h, decide_eq_false (by rw [u8_lt _ _ (by omega) (by omega)]; omega), beq_self_eq_true, Bool.true_and, Bool.false_or]
    exact less_be _ a b (by rw [← h]; exact (nb_spec a ha).1) (nb_spec b hb).1
  · rw [decide_eq_false (by rw [u8_lt _ _ (by omega) (by omega)]; omega), beq_eq_false_iff_ne.2 (by rw [Ne, u8_eq _ _ (by omega) (by omega)]; omega), Bool.false_and, Bool.false_or]
    have := nb_mono hb ha h
    simp; omega

theorem less_irrefl (l : List UInt8) : bytesLess l l = false := by
  induction l with
  | nil => rfl
  | cons x xs ih => simp [bytesLess, ih]

/-- Two numbers of the same bytes are one. -/
theorem numL_inj (a b : Nat) (ha : a < 18446744073709551616) (hb : b < 18446744073709551616) (h : numL a = numL b) : a = b := by
  have h1 := less_numL a b ha hb
  have h2 := less_numL b a hb ha
  rw [h, less_irrefl] at h1
  rw [h, less_irrefl] at h2
  simp at h1 h2
  omega

/-- No number's bytes begin with another one's. -/
theorem numL_prefix (a b : Nat) (ha : a < 18446744073709551616) (hb : b < 18446744073709551616) (h : (numL b).take (numL a).length = numL a) : a = b := by
  have na := nb_le a ha
  have nb' := nb_le b hb
  have h0 : UInt8.ofNat (nb b) = UInt8.ofNat (nb a) := by
    have := congrArg List.head? h
    simpa [numL] using this
  have h1 : nb b = nb a := (u8_eq _ _ (by omega) (by omega)).1 h0
  have h2 : (numL b).length = (numL a).length := by rw [numL_length, numL_length, h1]
  rw [← h2, List.take_length] at h
  exact numL_inj a b ha hb h.symm

end Go.Proofs.Ytgbhfolbkgibfaa.BinMath

/- How bytes are read: numbers and texts, with their first faults. No program is named here. -/
namespace Go.Proofs.Ytgbhfolbkgibfaa.BinMath
set_option maxRecDepth 20000

/-- m bytes more of a number, of which acc was read. -/
def digs : Nat → Bool → Nat → List UInt8 → Except Nat Nat
  | 0, _, acc, _ => .ok acc
  | _ + 1, _, _, [] => .error 2
  | m + 1, first, acc, c :: r => if first && c.toNat == 0 then .error 3 else digs m false (acc * 256 + c.toNat) r

/-- A number, and how many bytes it took; or the first fault. -/
def pNum : List UInt8 → Except Nat (Nat × Nat)
  | [] => .error 2
  | k :: r => if 8 < k.toNat then .error 3 else match digs k.toNat true 0 r with
    | .ok n => .ok (n, k.toNat + 1)
    | .error c => .error c

/-- A text of at most 'most' bytes, and how many bytes it took with its length; or the first fault. -/
def pText (most : Nat) (l : List UInt8) : Except Nat (List UInt8 × Nat) :=
  match pNum l with
  | .error c => .error c
  | .ok (n, u) => if most < n then .error 4 else if l.length - u < n then .error 2 else .ok ((l.drop u).take n, u + n)

theorem digs_used : ∀ (m : Nat) (first : Bool) (acc : Nat) (r : List UInt8) (n : Nat), digs m first acc r = .ok n → m ≤ r.length
  | 0, _, _, _, _, _ => Nat.zero_le _
  | m + 1, first, acc, [], n, h => by simp [digs] at h
  | m + 1, first, acc, c :: r, n, h => by
    unfold digs at h
    split at h
    · cases h
    · have := digs_used m false _ r n h
      simp; omega

theorem digs_lt : ∀ (m : Nat) (first : Bool) (acc : Nat) (r : List UInt8) (n j : Nat), acc < 256 ^ j → digs m first acc r = .ok n → n < 256 ^ (j + m)
  | 0, _, acc, _, n, j, ha, h => by simp [digs] at h; subst h; simpa using ha
  | m + 1, first, acc, [], n, j, ha, h => by simp [digs] at h
  | m + 1, first, acc, c :: r, n, j, ha, h => by
    unfold digs at h
    split at h
    · cases h
    · have hc := c.toNat_lt
      have := digs_lt m false (acc * 256 + c.toNat) r n (j + 1) (by rw [Nat.pow_succ]; omega) h
      rwa [show j + (m + 1) = j + 1 + m by omega]

theorem pNum_used {l : List UInt8} {n u : Nat} (h : pNum l = .ok (n, u)) : u ≤ l.length ∧ n < 18446744073709551616 ∧ 1 ≤ u := by
  cases l with
  | nil => simp [pNum] at h
  | cons k r =>
    simp only [pNum] at h
    split at h
    · cases h
    · rename_i hk
      cases hd : digs k.toNat true 0 r with
      | error c => rw [hd] at h; cases h
      | ok m =>
        rw [hd] at h
        simp at h
        obtain ⟨rfl, rfl⟩ := h
        have h1 := digs_used _ _ _ _ _ hd
        have h2 := digs_lt _ _ _ _ _ 0 (by simp) hd
        refine ⟨by simp; omega, ?_, by omega⟩
        refine Nat.lt_of_lt_of_le h2 ?_
        rw [Nat.zero_add, show (18446744073709551616 : Nat) = 256 ^ 8 by decide]
        exact Nat.pow_le_pow_right (by decide) (by omega)

theorem pText_used {most : Nat} {l t : List UInt8} {u : Nat} (h : pText most l = .ok (t, u)) : u ≤ l.length ∧ t.length ≤ most ∧ t.length ≤ l.length := by
  unfold pText at h
  cases hn : pNum l with
  | error c => rw [hn] at h; cases h
  | ok p =>
    obtain ⟨n, v⟩ := p
    rw [hn] at h
    have hu := pNum_used hn
    simp only at h
    split at h
    · cases h
    · split at h
      · cases h
      · simp at h
        obtain ⟨rfl, rfl⟩ := h
        simp
        omega

/-- Reading what Num laid. -/
theorem digs_be (k : Nat) : ∀ (m n acc : Nat) (first : Bool) (r : List UInt8), m = k → (first = true → k ≠ 0 → 256 ^ (k - 1) ≤ n) → n < 256 ^ k → digs m first acc (be k n ++ r) = .ok (acc * 256 ^ k + n) := by
  induction k with
  | zero => intro m n acc first r hm _ hn; subst hm; simp at hn; subst hn; simp [digs]
  | succ k ih =>
    intro m n acc first r hm hf hn
    subst hm
    have ht := top_lt k n hn
    have hp : 0 < 256 ^ k := Nat.pow_pos (by decide)
    have hdm := Nat.div_add_mod n (256 ^ k)
    have hml := Nat.mod_lt n hp
    have hb : (UInt8.ofNat (n / 256 ^ k % 256)).toNat = n / 256 ^ k := by simp [Nat.mod_eq_of_lt ht]
    simp only [be, List.cons_append, digs, hb]
    have hne : (first && n / 256 ^ k == 0) = false := by
      cases first with
      | false => rfl
      | true =>
        have := hf rfl (by omega)
        rw [Nat.add_sub_cancel] at this
        have : 1 ≤ n / 256 ^ k := (Nat.le_div_iff_mul_le hp).2 (by omega)
        simp; omega
    rw [hne]
    simp only [Bool.false_eq_true, if_false]
    rw [← be_mod k n k (Nat.le_refl _), ih k (n % 256 ^ k) _ false r rfl (by simp) hml]
    congr 1
    rw [Nat.pow_succ, Nat.add_mul]
    have e1 : acc * 256 * 256 ^ k = acc * (256 ^ k * 256) := by rw [Nat.mul_assoc, Nat.mul_comm 256]
    rw [e1, Nat.add_assoc]
    congr 1
    rw [Nat.mul_comm (n / 256 ^ k)]
    exact hdm

theorem pNum_numL (n : Nat) (r : List UInt8) (hn : n < 18446744073709551616) : pNum (numL n ++ r) = .ok (n, (numL n).length) := by
  have h8 := nb_le n hn
  have hk : (UInt8.ofNat (nb n)).toNat = nb n := by simp; omega
  obtain ⟨h1, h2⟩ := nb_spec n hn
  have hd := digs_be (nb n) (nb n) n 0 true r rfl (fun _ h0 => (h2 (by rintro rfl; rw [nb_zero] at h0; exact h0 rfl)).2) h1
  rw [Nat.zero_mul, Nat.zero_add] at hd
  rw [numL_length]
  simp only [numL, List.cons_append, pNum, hk, hd]
  rw [if_neg (by omega)]

theorem pText_rawL (t r : List UInt8) (ht : t.length < 18446744073709551616) (most : Nat) (hm : t.length ≤ most) : pText most (numL t.length ++ (t ++ r)) = .ok (t, (numL t.length).length + t.length) := by
  unfold pText
  rw [pNum_numL _ _ ht]
  simp only
  rw [if_neg (by omega), if_neg (by simp), List.drop_left, List.take_left]

/-- Bytes that are read as a number are its bytes. -/
theorem digs_back : ∀ (m : Nat) (first : Bool) (acc : Nat) (r : List UInt8) (n : Nat), digs m first acc r = .ok n → ∃ x, n = acc * 256 ^ m + x ∧ x < 256 ^ m ∧ r.take m = be m x ∧ (first = true → m ≠ 0 → 256 ^ (m - 1) ≤ x)
  | 0, _, acc, _, n, h => by simp [digs] at h; exact ⟨0, by omega, by simp, by simp [be], by simp⟩
  | m + 1, first, acc, [], n, h => by simp [digs] at h
  | m + 1, first, acc, c :: r, n, h => by
    unfold digs at h
    split at h
    · cases h
    · rename_i hc
      obtain ⟨x, h1, h2, h3, _⟩ := digs_back m false _ r n h
      have hcl := c.toNat_lt
      have hp : 0 < 256 ^ m := Nat.pow_pos (by decide)
      have hdiv : (c.toNat * 256 ^ m + x) / 256 ^ m = c.toNat := by rw [Nat.mul_comm, Nat.mul_add_div hp, Nat.div_eq_of_lt h2, Nat.add_zero]
      refine ⟨c.toNat * 256 ^ m + x, ?_, ?_, ?_, ?_⟩
      · rw [h1, Nat.add_mul, Nat.pow_succ, Nat.add_assoc]
        congr 1
        rw [Nat.mul_assoc, Nat.mul_comm 256]
      · rw [Nat.pow_succ]
        have : c.toNat * 256 ^ m ≤ 255 * 256 ^ m := Nat.mul_le_mul_right _ (by omega)
        omega
      · simp only [List.take_succ_cons, be]
        rw [hdiv]
        have e1 : UInt8.ofNat (c.toNat % 256) = c := by
          rw [Nat.mod_eq_of_lt hcl]; simp
        rw [e1, h3]
        congr 1
        rw [← be_mod m (c.toNat * 256 ^ m + x) m (Nat.le_refl _), Nat.mul_comm, Nat.mul_add_mod, Nat.mod_eq_of_lt h2]
      · intro hf _
        subst hf
        rw [Nat.add_sub_cancel]
        have : 1 ≤ c.toNat := by
          simp at hc
          have : c.toNat ≠ 0 := by exact hc
          omega
        have := Nat.mul_le_mul_right (256 ^ m) this
        omega

theorem pNum_back {l : List UInt8} {n u : Nat} (h : pNum l = .ok (n, u)) : numL n = l.take u := by
  have hlt := (pNum_used h).2.1
  cases l with
  | nil => simp [pNum] at h
  | cons k r =>
    simp only [pNum] at h
    split at h
    · cases h
    · rename_i hk
      cases hd : digs k.toNat true 0 r with
      | error c => rw [hd] at h; cases h
      | ok m =>
        rw [hd] at h
        simp at h
        obtain ⟨rfl, rfl⟩ := h
        obtain ⟨x, h1, h2, h3, h4⟩ := digs_back _ _ _ _ _ hd
        rw [Nat.zero_mul, Nat.zero_add] at h1
        subst h1
        have hnb : nb m = k.toNat := nb_unique m _ hlt h2 (h4 rfl)
        rw [List.take_succ_cons, h3, numL, hnb]
        congr 1
        simp

/-- What a reader answers that stands at k of the bytes l, stuck by st (0: it isn't): the value, the error, the place behind. The error is what it is stuck by from then on. -/
def byteS (l : List UInt8) (k st : Nat) : Nat × Nat × Nat := if st ≠ 0 then (0, st, k) else match l.drop k with
  | [] => (0, 2, k)
  | c :: _ => (c.toNat, 0, k + 1)

def numS (l : List UInt8) (k st : Nat) : Nat × Nat × Nat := if st ≠ 0 then (0, st, k) else match pNum (l.drop k) with
  | .ok (n, u) => (n, 0, k + u)
  | .error c => (0, c, k)

def textS (l : List UInt8) (most k st : Nat) : List UInt8 × Nat × Nat := if st ≠ 0 then ([], st, k) else match pText most (l.drop k) with
  | .ok (t, u) => (t, 0, k + u)
  | .error c => ([], c, k)

def endS (l : List UInt8) (k st : Nat) : Nat := if st ≠ 0 then st else if k < l.length then 5 else 0

theorem digs_err : ∀ (m : Nat) (first : Bool) (acc : Nat) (r : List UInt8) (c : Nat), digs m first acc r = .error c → c = 2 ∨ c = 3
  | 0, _, _, _, _, h => by simp [digs] at h
  | m + 1, first, acc, [], c, h => by simp [digs] at h; exact .inl h.symm
  | m + 1, first, acc, x :: r, c, h => by
    unfold digs at h
    split at h
    · cases h; exact .inr rfl
    · exact digs_err m false _ r c h

theorem pNum_err {l : List UInt8} {c : Nat} (h : pNum l = .error c) : c = 2 ∨ c = 3 := by
  cases l with
  | nil => simp [pNum] at h; exact .inl h.symm
  | cons k r =>
    simp only [pNum] at h
    split at h
    · cases h; exact .inr rfl
    · cases hd : digs k.toNat true 0 r with
      | ok m => rw [hd] at h; cases h
      | error d => rw [hd] at h; cases h; exact digs_err _ _ _ _ _ hd

end Go.Proofs.Ytgbhfolbkgibfaa.BinMath

/- Layer 12's entries as plain data: which are formed, their bytes, and how bytes are read. No program is named here. -/
namespace Go.Proofs.Ytgbhfolbkgibfaa.CmdMath
set_option maxRecDepth 20000
open BinMath

/-- An entry: term, kind, client, sequence number, data, members. -/
structure Ent where
  t : Nat
  k : Int
  c : Nat
  s : Nat
  d : List UInt8
  m : List Nat
deriving DecidableEq

def Ent.zero : Ent := ⟨0, 0, 0, 0, [], []⟩

/-- The fields lie in their types' ranges. -/
structure Ent.Ok (e : Ent) : Prop where
  t : e.t < 18446744073709551616
  kl : -9223372036854775808 ≤ e.k
  kh : e.k < 9223372036854775808
  c : e.c < 18446744073709551616
  s : e.s < 18446744073709551616
  m : ∀ x ∈ e.m, x < 18446744073709551616

theorem Ent.Ok.zero : Ent.Ok Ent.zero := ⟨by decide, by decide, by decide, by decide, by decide, by simp [Ent.zero]⟩

/-- Ids that rise from behind a on, none above 7. -/
def rises : Nat → List Nat → Bool
  | _, [] => true
  | a, x :: r => decide (a < x ∧ x ≤ 7) && rises x r

def memOk (m : List Nat) : Bool := !m.isEmpty && rises 0 m

theorem rises_len : ∀ (m : List Nat) (a : Nat), a ≤ 7 → rises a m = true → m.length + a ≤ 7
  | [], a, ha, _ => by simpa using ha
  | x :: r, a, ha, h => by
    simp [rises] at h
    have := rises_len r x h.1.2 h.2
    simp only [List.length_cons]; omega

theorem memOk_len {m : List Nat} (h : memOk m = true) : 1 ≤ m.length ∧ m.length ≤ 7 := by
  simp [memOk] at h
  have := rises_len m 0 (by omega) h.2
  refine ⟨?_, by omega⟩
  cases m with
  | nil => simp at h
  | cons a r => simp

theorem rises_lt : ∀ (m : List Nat) (a : Nat), rises a m = true → ∀ x ∈ m, x ≤ 7
  | [], _, _, x, hx => by simp at hx
  | y :: r, a, h, x, hx => by
    simp [rises] at h
    rcases List.mem_cons.1 hx with rfl | hx
    · exact h.1.2
    · exact rises_lt r y h.2 x hx

def bare (e : Ent) : Bool := decide (e.c = 0) && decide (e.s = 0) && decide (e.d.length = 0)

def termOk (t : Nat) : Bool := decide (1 ≤ t ∧ t ≤ 4611686018427387904)

def formed (e : Ent) : Bool := termOk e.t && (if e.k = 1 then bare e && decide (e.m.length = 0) else if e.k = 2 then decide (e.d.length ≤ 64) && decide (e.m.length = 0) else if e.k = 3 then bare e && memOk e.m else false)

def idsL : List Nat → List UInt8
  | [] => []
  | x :: r => numL x ++ idsL r

theorem idsL_append (a b : List Nat) : idsL (a ++ b) = idsL a ++ idsL b := by
  induction a with
  | nil => rfl
  | cons x r ih => simp [idsL, ih]

def tailL (e : Ent) : List UInt8 := if e.k = 2 then numL e.c ++ (numL e.s ++ (numL e.d.length ++ e.d)) else if e.k = 3 then numL e.m.length ++ idsL e.m else []

/-- The bytes of an entry. -/
def putL (e : Ent) : List UInt8 := numL e.t ++ (UInt8.ofNat (e.k % 256).toNat :: tailL e)

/-! ### Reading: what is read and the rest, or the first fault -/

def gNum (l : List UInt8) : Except Nat (Nat × List UInt8) := match pNum l with
  | .ok (n, u) => .ok (n, l.drop u)
  | .error c => .error c

def gByte : List UInt8 → Except Nat (Nat × List UInt8)
  | [] => .error 2
  | c :: r => .ok (c.toNat, r)

def gText (most : Nat) (l : List UInt8) : Except Nat (List UInt8 × List UInt8) := match pText most l with
  | .ok (t, u) => .ok (t, l.drop u)
  | .error c => .error c

def gIds : Nat → Nat → List UInt8 → Except Nat (List Nat × List UInt8)
  | 0, _, l => .ok ([], l)
  | n + 1, last, l => match gNum l with
    | .error c => .error c
    | .ok (id, r) => if last < id ∧ id ≤ 7 then match gIds n id r with
        | .error c => .error c
        | .ok (ids, q) => .ok (id :: ids, q)
      else .error 3

def gMem (l : List UInt8) : Except Nat (List Nat × List UInt8) := match gNum l with
  | .error c => .error c
  | .ok (n, r) => if 1 ≤ n ∧ n ≤ 7 then gIds n 0 r else .error 3

/-- What stands behind the kind of a put: client, sequence number, data. -/
def gPut (t : Nat) (l : List UInt8) : Except Nat (Ent × List UInt8) := match gNum l with
  | .error x => .error x
  | .ok (c, r) => match gNum r with
    | .error x => .error x
    | .ok (s, r) => match gText 64 r with
      | .error x => .error x
      | .ok (d, r) => .ok (⟨t, 2, c, s, d, []⟩, r)

def gConf (t : Nat) (l : List UInt8) : Except Nat (Ent × List UInt8) := match gMem l with
  | .error x => .error x
  | .ok (m, r) => .ok (⟨t, 3, 0, 0, [], m⟩, r)

def gKind (t : Nat) (l : List UInt8) : Except Nat (Ent × List UInt8) := match gByte l with
  | .error x => .error x
  | .ok (k, r) => if k = 1 then .ok (⟨t, 1, 0, 0, [], []⟩, r) else if k = 2 then gPut t r else if k = 3 then gConf t r else .error 3

def gEnt (l : List UInt8) : Except Nat (Ent × List UInt8) := match gNum l with
  | .error x => .error x
  | .ok (t, r) => if 1 ≤ t ∧ t ≤ 4611686018427387904 then gKind t r else .error 3

/-- What Get answers: the entry and the error. -/
def getR (l : List UInt8) : Ent × Nat := match gEnt l with
  | .error x => (Ent.zero, x)
  | .ok (e, r) => if r = [] then (e, 0) else (Ent.zero, 5)

/-! ### What was laid is read -/

theorem gNum_lay (n : Nat) (r : List UInt8) (hn : n < 18446744073709551616) : gNum (numL n ++ r) = .ok (n, r) := by
  unfold gNum
  rw [pNum_numL n r hn]
  simp only [List.drop_left]

theorem gText_lay (t r : List UInt8) (most : Nat) (hm : t.length ≤ most) (ht : t.length < 18446744073709551616) : gText most (numL t.length ++ (t ++ r)) = .ok (t, r) := by
  unfold gText
  rw [pText_rawL t r ht most hm]
  simp only
  rw [← List.append_assoc, List.drop_left' (by simp)]

theorem gIds_lay : ∀ (m : List Nat) (a : Nat) (r : List UInt8), rises a m = true → gIds m.length a (idsL m ++ r) = .ok (m, r)
  | [], a, r, _ => rfl
  | x :: m, a, r, h => by
    simp [rises] at h
    simp only [List.length_cons, gIds, idsL, List.append_assoc]
    rw [gNum_lay x _ (by omega)]
    simp only
    rw [if_pos h.1, gIds_lay m x r h.2]

theorem gMem_lay (m : List Nat) (r : List UInt8) (h : memOk m = true) : gMem (numL m.length ++ (idsL m ++ r)) = .ok (m, r) := by
  have hl := memOk_len h
  unfold gMem
  rw [gNum_lay _ _ (by omega)]
  simp only
  rw [if_pos hl]
  simp [memOk] at h
  exact gIds_lay m 0 r h.2

theorem gEnt_lay (e : Ent) (hok : e.Ok) (h : formed e = true) (r : List UInt8) : gEnt (putL e ++ r) = .ok (e, r) := by
  obtain ⟨t, k, c, s, d, m⟩ := e
  simp only [formed, Bool.and_eq_true, termOk, decide_eq_true_eq] at h
  obtain ⟨ht, h⟩ := h
  simp only [gEnt, putL, List.append_assoc, List.cons_append]
  rw [gNum_lay _ _ hok.t]
  simp only
  rw [if_pos ht]
  simp only [gKind, gByte]
  by_cases h1 : k = 1
  · subst h1
    rw [if_pos rfl] at h
    simp [bare] at h
    obtain ⟨⟨⟨rfl, rfl⟩, rfl⟩, rfl⟩ := h
    have e1 : (UInt8.ofNat ((1 : Int) % 256).toNat).toNat = 1 := by decide
    simp only [e1, if_pos, tailL]
    simp
  · rw [if_neg h1] at h
    by_cases h2 : k = 2
    · subst h2
      rw [if_pos rfl] at h
      simp at h
      obtain ⟨hd, rfl⟩ := h
      have e1 : (UInt8.ofNat ((2 : Int) % 256).toNat).toNat = 2 := by decide
      simp only [e1, tailL, gPut, List.append_assoc, Nat.reduceEqDiff, ↓reduceIte]
      rw [gNum_lay _ _ hok.c]
      simp only
      rw [gNum_lay _ _ hok.s]
      simp only
      rw [gText_lay d r 64 hd (by omega)]
    · rw [if_neg h2] at h
      by_cases h3 : k = 3
      · subst h3
        rw [if_pos rfl] at h
        simp [bare] at h
        obtain ⟨⟨⟨rfl, rfl⟩, rfl⟩, hm⟩ := h
        have e1 : (UInt8.ofNat ((3 : Int) % 256).toNat).toNat = 3 := by decide
        simp only [e1, tailL, gConf, List.append_assoc, Nat.reduceEqDiff, Int.reduceEq, ↓reduceIte]
        rw [gMem_lay m r hm]
      · rw [if_neg h3] at h
        exact absurd h (by simp)

theorem getR_lay (e : Ent) (hok : e.Ok) (h : formed e = true) : getR (putL e) = (e, 0) := by
  unfold getR
  have := gEnt_lay e hok h []
  rw [List.append_nil] at this
  rw [this]
  simp

/-! ### What is read was laid -/

theorem gNum_back {l r : List UInt8} {n : Nat} (h : gNum l = .ok (n, r)) : n < 18446744073709551616 ∧ l = numL n ++ r := by
  unfold gNum at h
  cases hp : pNum l with
  | error c => rw [hp] at h; cases h
  | ok p =>
    obtain ⟨m, u⟩ := p
    rw [hp] at h
    simp at h
    obtain ⟨rfl, rfl⟩ := h
    exact ⟨(pNum_used hp).2.1, by rw [pNum_back hp, List.take_append_drop]⟩

theorem gByte_back {l r : List UInt8} {n : Nat} (h : gByte l = .ok (n, r)) : n < 256 ∧ l = UInt8.ofNat n :: r := by
  cases l with
  | nil => simp [gByte] at h
  | cons c q =>
    simp [gByte] at h
    obtain ⟨rfl, rfl⟩ := h
    exact ⟨c.toNat_lt, by simp⟩

theorem gText_back {most : Nat} {l t r : List UInt8} (h : gText most l = .ok (t, r)) : t.length ≤ most ∧ l = numL t.length ++ (t ++ r) := by
  unfold gText at h
  cases hp : pText most l with
  | error c => rw [hp] at h; cases h
  | ok p =>
    obtain ⟨m, u⟩ := p
    rw [hp] at h
    simp at h
    obtain ⟨rfl, rfl⟩ := h
    refine ⟨(pText_used hp).2.1, ?_⟩
    unfold pText at hp
    cases hn : pNum l with
    | error c => rw [hn] at hp; cases hp
    | ok p =>
      obtain ⟨n, v⟩ := p
      rw [hn] at hp
      have hu := pNum_used hn
      have hb := pNum_back hn
      simp only at hp
      split at hp
      · cases hp
      · split at hp
        · cases hp
        · rename_i h1 h2
          simp at hp
          obtain ⟨rfl, rfl⟩ := hp
          have el : ((l.drop v).take n).length = n := by simp; omega
          rw [el, hb]
          rw [← List.drop_drop, List.take_append_drop, List.take_append_drop]

theorem gIds_back : ∀ (n a : Nat) (l r : List UInt8) (m : List Nat), gIds n a l = .ok (m, r) → m.length = n ∧ rises a m = true ∧ l = idsL m ++ r
  | 0, a, l, r, m, h => by
    simp [gIds] at h
    obtain ⟨rfl, rfl⟩ := h
    exact ⟨rfl, rfl, rfl⟩
  | n + 1, a, l, r, m, h => by
    simp only [gIds] at h
    cases hn : gNum l with
    | error c => rw [hn] at h; cases h
    | ok p =>
      obtain ⟨x, q⟩ := p
      rw [hn] at h
      obtain ⟨hx, hl⟩ := gNum_back hn
      simp only at h
      split at h
      · rename_i hc
        cases hi : gIds n x q with
        | error c => rw [hi] at h; cases h
        | ok p =>
          obtain ⟨ids, q'⟩ := p
          rw [hi] at h
          simp at h
          obtain ⟨rfl, rfl⟩ := h
          obtain ⟨h1, h2, h3⟩ := gIds_back n x q q' ids hi
          refine ⟨by simp [h1], by simp [rises, hc, h2], ?_⟩
          rw [hl, h3]
          simp [idsL]
      · cases h

theorem gMem_back {l r : List UInt8} {m : List Nat} (h : gMem l = .ok (m, r)) : memOk m = true ∧ l = numL m.length ++ (idsL m ++ r) := by
  unfold gMem at h
  cases hn : gNum l with
  | error c => rw [hn] at h; cases h
  | ok p =>
    obtain ⟨n, q⟩ := p
    rw [hn] at h
    obtain ⟨hx, hl⟩ := gNum_back hn
    simp only at h
    split at h
    · rename_i hc
      obtain ⟨h1, h2, h3⟩ := gIds_back _ _ _ _ _ h
      refine ⟨?_, by rw [hl, h3, h1]⟩
      cases m with
      | nil => simp at h1; omega
      | cons x r => simp [memOk, h2]
    · cases h

theorem gEnt_back {l r : List UInt8} {e : Ent} (h : gEnt l = .ok (e, r)) : e.Ok ∧ formed e = true ∧ l = putL e ++ r := by
  unfold gEnt at h
  cases hn : gNum l with
  | error c => rw [hn] at h; cases h
  | ok p =>
    obtain ⟨t, q⟩ := p
    rw [hn] at h
    obtain ⟨hx, hl⟩ := gNum_back hn
    simp only at h
    split at h
    · rename_i ht
      unfold gKind at h
      cases hb : gByte q with
      | error c => rw [hb] at h; cases h
      | ok p =>
        obtain ⟨k, q'⟩ := p
        rw [hb] at h
        obtain ⟨hk, hq⟩ := gByte_back hb
        simp only at h
        split at h
        · rename_i h1
          simp at h
          obtain ⟨rfl, rfl⟩ := h
          refine ⟨⟨hx, by simp, by simp, by simp, by simp, by simp⟩, by simp [formed, termOk, bare, ht], ?_⟩
          rw [hl, hq, h1]
          simp [putL, tailL]
        · split at h
          · rename_i h1 h2
            unfold gPut at h
            cases hc : gNum q' with
            | error c => rw [hc] at h; cases h
            | ok p =>
              obtain ⟨c, q2⟩ := p
              rw [hc] at h
              obtain ⟨hcx, hcl⟩ := gNum_back hc
              simp only at h
              cases hs : gNum q2 with
              | error c => rw [hs] at h; cases h
              | ok p =>
                obtain ⟨s, q3⟩ := p
                rw [hs] at h
                obtain ⟨hsx, hsl⟩ := gNum_back hs
                simp only at h
                cases hd : gText 64 q3 with
                | error c => rw [hd] at h; cases h
                | ok p =>
                  obtain ⟨d, q4⟩ := p
                  rw [hd] at h
                  obtain ⟨hdx, hdl⟩ := gText_back hd
                  simp at h
                  obtain ⟨rfl, rfl⟩ := h
                  refine ⟨⟨hx, by simp, by simp, hcx, hsx, by simp⟩, by simp [formed, termOk, ht, hdx], ?_⟩
                  rw [hl, hq, h2, hcl, hsl, hdl]
                  simp [putL, tailL]
          · split at h
            · rename_i h1 h2 h3
              unfold gConf at h
              cases hm : gMem q' with
              | error c => rw [hm] at h; cases h
              | ok p =>
                obtain ⟨m, q2⟩ := p
                rw [hm] at h
                obtain ⟨hmo, hml⟩ := gMem_back hm
                simp at h
                obtain ⟨rfl, rfl⟩ := h
                have hmo2 := hmo
                simp [memOk] at hmo2
                refine ⟨⟨hx, by simp, by simp, by simp, by simp, fun x hx => by have := rises_lt m 0 hmo2.2 x hx; omega⟩, by simp [formed, termOk, ht, bare, hmo], ?_⟩
                rw [hl, hq, h3, hml]
                simp [putL, tailL]
            · cases h
    · cases h

theorem gNum_err {l : List UInt8} {c : Nat} (h : gNum l = .error c) : 2 ≤ c ∧ c ≤ 3 := by
  unfold gNum at h
  cases hp : pNum l with
  | error d => rw [hp] at h; cases h; rcases pNum_err hp with h | h <;> omega
  | ok p => rw [hp] at h; cases h

theorem gText_err {most : Nat} {l : List UInt8} {c : Nat} (h : gText most l = .error c) : 2 ≤ c ∧ c ≤ 4 := by
  unfold gText at h
  cases hp : pText most l with
  | ok p => rw [hp] at h; cases h
  | error d =>
    rw [hp] at h; cases h
    unfold pText at hp
    cases hn : pNum l with
    | error d => rw [hn] at hp; cases hp; rcases pNum_err hn with h | h <;> omega
    | ok p =>
      rw [hn] at hp
      simp only at hp
      split at hp
      · cases hp; omega
      · split at hp
        · cases hp; omega
        · cases hp

theorem gIds_err : ∀ (n a : Nat) (l : List UInt8) (c : Nat), gIds n a l = .error c → 2 ≤ c ∧ c ≤ 3
  | 0, a, l, c, h => by simp [gIds] at h
  | n + 1, a, l, c, h => by
    simp only [gIds] at h
    cases hn : gNum l with
    | error d => rw [hn] at h; cases h; exact gNum_err hn
    | ok p =>
      obtain ⟨x, q⟩ := p
      rw [hn] at h
      simp only at h
      split at h
      · cases hi : gIds n x q with
        | error d => rw [hi] at h; cases h; exact gIds_err n x q _ hi
        | ok p => rw [hi] at h; cases h
      · cases h; omega

theorem gMem_err {l : List UInt8} {c : Nat} (h : gMem l = .error c) : 2 ≤ c ∧ c ≤ 3 := by
  unfold gMem at h
  cases hn : gNum l with
  | error d => rw [hn] at h; cases h; exact gNum_err hn
  | ok p =>
    rw [hn] at h
    simp only at h
    split at h
    · exact gIds_err _ _ _ _ h
    · cases h; omega

theorem gEnt_err {l : List UInt8} {c : Nat} (h : gEnt l = .error c) : 2 ≤ c ∧ c ≤ 4 := by
  unfold gEnt at h
  cases hn : gNum l with
  | error d => rw [hn] at h; cases h; have := gNum_err hn; omega
  | ok p =>
    obtain ⟨t, q⟩ := p
    rw [hn] at h
    simp only at h
    split at h
    · unfold gKind at h
      cases hb : gByte q with
      | error d => rw [hb] at h; cases h; cases q <;> simp [gByte] at hb; omega
      | ok p =>
        obtain ⟨k, q'⟩ := p
        rw [hb] at h
        simp only at h
        split at h
        · cases h
        · split at h
          · unfold gPut at h
            cases hc : gNum q' with
            | error d => rw [hc] at h; cases h; have := gNum_err hc; omega
            | ok p =>
              rw [hc] at h
              simp only at h
              cases hs : gNum p.2 with
              | error d => rw [hs] at h; cases h; have := gNum_err hs; omega
              | ok p =>
                rw [hs] at h
                simp only at h
                cases hd : gText 64 p.2 with
                | error d => rw [hd] at h; cases h; exact gText_err hd
                | ok p => rw [hd] at h; cases h
          · split at h
            · unfold gConf at h
              cases hm : gMem q' with
              | error d => rw [hm] at h; cases h; have := gMem_err hm; omega
              | ok p => rw [hm] at h; cases h
            · cases h; omega
    · cases h; omega

theorem getR_back {l : List UInt8} {e : Ent} (h : getR l = (e, 0)) : e.Ok ∧ formed e = true ∧ putL e = l := by
  unfold getR at h
  cases hg : gEnt l with
  | error c => rw [hg] at h; simp at h; have := gEnt_err hg; omega
  | ok p =>
    obtain ⟨f, r⟩ := p
    rw [hg] at h
    simp only at h
    split at h
    · rename_i hr
      simp at h
      subst h hr
      obtain ⟨h1, h2, h3⟩ := gEnt_back hg
      exact ⟨h1, h2, by rw [h3, List.append_nil]⟩
    · simp at h

/-- Whatever is answered: with an error the zero entry, and the numbers' ranges. -/
theorem getR_cases (l : List UInt8) : ((getR l).2 = 0 ∧ (getR l).1.Ok ∧ formed (getR l).1 = true ∧ putL (getR l).1 = l) ∨ ((getR l).2 ≠ 0 ∧ (getR l).2 ≤ 5 ∧ (getR l).1 = Ent.zero) := by
  by_cases h : (getR l).2 = 0
  · left
    have := getR_back (l := l) (e := (getR l).1) (by rw [← h])
    exact ⟨h, this⟩
  · right
    refine ⟨h, ?_⟩
    unfold getR at h ⊢
    cases hg : gEnt l with
    | error c => have := gEnt_err hg; simp; omega
    | ok p =>
      obtain ⟨f, r⟩ := p
      rw [hg] at h
      simp only at h ⊢
      split at h
      · simp at h
      · rename_i hr; rw [if_neg hr]; simp

/-! ### Cut off -/

end Go.Proofs.Ytgbhfolbkgibfaa.CmdMath

