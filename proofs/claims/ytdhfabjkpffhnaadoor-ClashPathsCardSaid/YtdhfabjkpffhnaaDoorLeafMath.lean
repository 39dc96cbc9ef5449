/- Plain facts on trees of hashes: the root of leaves, peaks. No program is named here. -/
import Derived.Test.YtdhfabjkpffhnaaDoorShaGood
import Derived.Test.YtdhfabjkpffhnaaDoorShaNarrowMath
namespace Go.Proofs.YtdhfabjkpffhnaaDoor.LeafMath
set_option maxRecDepth 20000
open ShaMath

abbrev Hs := List UInt8

def hashW (w : Int) (t : List UInt8) : Hs := narrowL (ShaMath.hash t) w
def emptyH (w : Int) : Hs := hashW w []
def leafH (w : Int) (d : List UInt8) : Hs := hashW w (0 :: d)
def nodeH (w : Int) (l r : Hs) : Hs := hashW w (1 :: (l ++ r))

theorem hashW_length (w : Int) (t : List UInt8) : (hashW w t).length = 32 := narrowL_length _ _
theorem emptyH_length (w : Int) : (emptyH w).length = 32 := hashW_length _ _
theorem leafH_length (w : Int) (d : List UInt8) : (leafH w d).length = 32 := hashW_length _ _
theorem nodeH_length (w : Int) (l r : Hs) : (nodeH w l r).length = 32 := hashW_length _ _

/-- What was narrowed once is narrowed. -/
theorem hashW_again (w : Int) (t : List UInt8) : narrowL (hashW w t) w = hashW w t := by
  unfold hashW
  rw [narrow_twice, show min w w = w by omega]
theorem hashW_wide (w m : Int) (hm : 256 ≤ m) (t : List UInt8) : narrowL (hashW m t) w = hashW w t := by
  unfold hashW
  rw [narrow_full _ m (hash_length _) hm]

/-! ### The greatest power of 2 below -/

def splitN (n : Nat) : Nat := 2 ^ Nat.log2 (n - 1)

theorem splitN_pos (n : Nat) : 0 < splitN n := Nat.pow_pos (by decide)
theorem splitN_lt {n : Nat} (h : 2 ≤ n) : splitN n < n := by
  have := Nat.log2_self_le (n := n - 1) (by omega)
  unfold splitN
  omega
theorem splitN_ge {n : Nat} (h : 2 ≤ n) : n ≤ 2 * splitN n := by
  have := Nat.lt_log2_self (n := n - 1)
  unfold splitN
  rw [Nat.pow_succ] at this
  omega

/-- Powers of 2 between. -/
theorem pow_one {a b : Nat} (h1 : 2 ^ a < 2 * 2 ^ b) (h2 : 2 ^ b < 2 * 2 ^ a) : a = b := by
  rcases Nat.lt_trichotomy a b with h | h | h
  · have := Nat.pow_le_pow_right (n := 2) (by decide) h
    rw [Nat.pow_succ] at this
    omega
  · exact h
  · have := Nat.pow_le_pow_right (n := 2) (by decide) h
    rw [Nat.pow_succ] at this
    omega
theorem splitN_is {n j : Nat} (h : 2 ^ j < n) (h2 : n ≤ 2 * 2 ^ j) : splitN n = 2 ^ j := by
  have hp : 0 < 2 ^ j := Nat.pow_pos (by decide)
  have a := splitN_lt (n := n) (by omega)
  have b := splitN_ge (n := n) (by omega)
  unfold splitN at *
  rw [pow_one (a := Nat.log2 (n - 1)) (b := j) (by omega) (by omega)]
theorem splitN_pow (n : Nat) : ∃ j, splitN n = 2 ^ j := ⟨_, rfl⟩
theorem splitN_even {n : Nat} (h : 3 ≤ n) : ∃ j, splitN n = 2 * 2 ^ j := by
  obtain ⟨j, hj⟩ := splitN_pow n
  have := splitN_ge (n := n) (by omega)
  cases j with
  | zero => rw [hj] at this; simp at this; omega
  | succ j => exact ⟨j, by rw [hj, Nat.pow_succ]; omega⟩

/-! ### The root -/

def rootH (w : Int) (hs : List Hs) : Hs :=
  if _h : hs.length < 2 then hs.headD (emptyH w)
  else nodeH w (rootH w (hs.take (splitN hs.length))) (rootH w (hs.drop (splitN hs.length)))
termination_by hs.length
decreasing_by
  all_goals
    have := splitN_lt (n := hs.length) (by omega)
    have := splitN_pos hs.length
    simp
    omega

theorem rootH_nil (w : Int) : rootH w [] = emptyH w := by rw [rootH]; rfl
theorem rootH_one (w : Int) (x : Hs) : rootH w [x] = x := by rw [rootH]; rfl
theorem rootH_more (w : Int) (hs : List Hs) (h : 2 ≤ hs.length) : rootH w hs = nodeH w (rootH w (hs.take (splitN hs.length))) (rootH w (hs.drop (splitN hs.length))) := by
  rw [rootH, dif_neg (by omega)]
theorem rootH_length (w : Int) (hs : List Hs) (h : ∀ x ∈ hs, x.length = 32) : (rootH w hs).length = 32 := by
  by_cases h2 : 2 ≤ hs.length
  · rw [rootH_more w hs h2, nodeH_length]
  · match hs with
    | [] => rw [rootH_nil, emptyH_length]
    | [x] => rw [rootH_one]; exact h x (by simp)
    | _ :: _ :: _ => simp at h2

/-! ### Pairs -/

def pairs (w : Int) : List Hs → List Hs
  | a :: b :: t => nodeH w a b :: pairs w t
  | _ => []
def odd1 : List Hs → List Hs
  | _ :: _ :: t => odd1 t
  | l => l

theorem pairs_length (w : Int) : ∀ hs : List Hs, (pairs w hs).length = hs.length / 2
  | [] => rfl
  | [_] => by simp [pairs]
  | a :: b :: t => by
    have := pairs_length w t
    simp only [pairs, List.length_cons, this]
    omega
theorem odd1_length : ∀ hs : List Hs, (odd1 hs).length = hs.length % 2
  | [] => rfl
  | [_] => rfl
  | a :: b :: t => by
    have := odd1_length t
    simp only [odd1, List.length_cons, this]
    omega
theorem pairs_append (w : Int) : ∀ (a b : List Hs), a.length % 2 = 0 → pairs w (a ++ b) = pairs w a ++ pairs w b
  | [], b, _ => rfl
  | [x], b, h => by simp at h
  | x :: y :: t, b, h => by
    have := pairs_append w t b (by simp at h; omega)
    simp only [List.cons_append, pairs, this]
theorem odd1_append : ∀ (a b : List Hs), a.length % 2 = 0 → odd1 (a ++ b) = odd1 b
  | [], b, _ => rfl
  | [x], b, h => by simp at h
  | x :: y :: t, b, h => by
    have := odd1_append t b (by simp at h; omega)
    simp only [List.cons_append, odd1, this]
theorem odd1_even (hs : List Hs) (h : hs.length % 2 = 0) : odd1 hs = [] := List.eq_nil_of_length_eq_zero (by rw [odd1_length, h])

theorem take_pairs (w : Int) (hs : List Hs) (k : Nat) (hk : 2 * k ≤ hs.length) : (pairs w hs).take k = pairs w (hs.take (2 * k)) := by
  have e : hs = hs.take (2 * k) ++ hs.drop (2 * k) := (List.take_append_drop _ _).symm
  have hl : (hs.take (2 * k)).length = 2 * k := by rw [List.length_take]; omega
  have h2 : (pairs w (hs.take (2 * k))).length = k := by rw [pairs_length, hl]; omega
  conv => lhs; rw [e, pairs_append w _ _ (by rw [hl]; omega)]
  rw [List.take_append_of_le_length (by omega), List.take_of_length_le (by omega)]
theorem drop_pairs (w : Int) (hs : List Hs) (k : Nat) (hk : 2 * k ≤ hs.length) : (pairs w hs).drop k = pairs w (hs.drop (2 * k)) := by
  have e : hs = hs.take (2 * k) ++ hs.drop (2 * k) := (List.take_append_drop _ _).symm
  have hl : (hs.take (2 * k)).length = 2 * k := by rw [List.length_take]; omega
  have h2 : (pairs w (hs.take (2 * k))).length = k := by rw [pairs_length, hl]; omega
  conv => lhs; rw [e, pairs_append w _ _ (by rw [hl]; omega)]
  rw [List.drop_append, List.drop_of_length_le (by omega), List.nil_append, h2, Nat.sub_self, List.drop_zero]
theorem odd1_drop (hs : List Hs) (k : Nat) (hk : 2 * k ≤ hs.length) : odd1 (hs.drop (2 * k)) = odd1 hs := by
  have e : hs = hs.take (2 * k) ++ hs.drop (2 * k) := (List.take_append_drop _ _).symm
  have hl : (hs.take (2 * k)).length = 2 * k := by rw [List.length_take]; omega
  conv => rhs; rw [e, odd1_append _ _ (by rw [hl]; omega)]

/-- One level of the tree: the root stays. -/
theorem rootH_pairs (w : Int) : ∀ (n : Nat) (hs : List Hs), hs.length = n → rootH w (pairs w hs ++ odd1 hs) = rootH w hs := by
  intro n
  induction n using Nat.strongRecOn with
  | ind n ih =>
    intro hs hn
    match hs with
    | [] => rfl
    | [x] => rfl
    | [a, b] =>
      rw [rootH_more w [a, b] (by simp)]
      have e : splitN ([a, b] : List Hs).length = 1 := show splitN 2 = 1 by decide +kernel
      rw [e]
      show rootH w [nodeH w a b] = nodeH w (rootH w [a]) (rootH w [b])
      rw [rootH_one, rootH_one, rootH_one]
    | a :: b :: c :: t =>
      generalize hhs : a :: b :: c :: t = hs at *
      have h3 : 3 ≤ hs.length := by rw [← hhs]; simp
      clear hhs
      obtain ⟨j, hj⟩ := splitN_even h3
      have hlt := splitN_lt (n := hs.length) (by omega)
      have hge := splitN_ge (n := hs.length) (by omega)
      have hp : 0 < 2 ^ j := Nat.pow_pos (by decide)
      have hl' : (pairs w hs ++ odd1 hs).length = (hs.length + 1) / 2 := by rw [List.length_append, pairs_length, odd1_length]; omega
      have hs' : splitN (pairs w hs ++ odd1 hs).length = 2 ^ j := splitN_is (by rw [hl']; omega) (by rw [hl']; omega)
      rw [rootH_more w hs (by omega), rootH_more w (pairs w hs ++ odd1 hs) (by rw [hl']; omega), hs', hj]
      have hpl : 2 ^ j ≤ (pairs w hs).length := by rw [pairs_length]; omega
      have e1 : (pairs w hs ++ odd1 hs).take (2 ^ j) = pairs w (hs.take (2 * 2 ^ j)) ++ odd1 (hs.take (2 * 2 ^ j)) := by
        rw [List.take_append_of_le_length hpl, take_pairs w hs _ (by omega), odd1_even _ (by rw [List.length_take]; omega), List.append_nil]
      have e2 : (pairs w hs ++ odd1 hs).drop (2 ^ j) = pairs w (hs.drop (2 * 2 ^ j)) ++ odd1 (hs.drop (2 * 2 ^ j)) := by
        rw [List.drop_append_of_le_length hpl, drop_pairs w hs _ (by omega), odd1_drop hs _ (by omega)]
      rw [e1, e2, ih (hs.take (2 * 2 ^ j)).length (by rw [List.length_take]; omega) _ rfl, ih (hs.drop (2 * 2 ^ j)).length (by rw [List.length_drop]; omega) _ rfl]

/-! ### Peaks -/

def peaks (w : Int) (hs : List Hs) : List Hs :=
  if _h : hs.length = 0 then [] else peaks w (pairs w hs) ++ odd1 hs
termination_by hs.length
decreasing_by
  rw [pairs_length]
  omega

theorem peaks_nil (w : Int) : peaks w [] = [] := by rw [peaks]; rfl
theorem peaks_more (w : Int) (hs : List Hs) : peaks w hs = peaks w (pairs w hs) ++ odd1 hs := by
  by_cases h : hs.length = 0
  · rw [List.eq_nil_of_length_eq_zero h]
    simp [pairs, odd1, peaks_nil]
  · rw [peaks, dif_neg h]

/-- The bits that are 1. -/
def ones (n : Nat) : Nat := if _h : n = 0 then 0 else n % 2 + ones (n / 2)
theorem ones_zero : ones 0 = 0 := by rw [ones]; rfl
theorem ones_more (n : Nat) : ones n = n % 2 + ones (n / 2) := by
  by_cases h : n = 0
  · subst h
    simp [ones_zero]
  · rw [ones, dif_neg h]

theorem peaks_length (w : Int) : ∀ (n : Nat) (hs : List Hs), hs.length = n → (peaks w hs).length = ones n := by
  intro n
  induction n using Nat.strongRecOn with
  | ind n ih =>
    intro hs hn
    by_cases h0 : n = 0
    · subst h0
      rw [List.eq_nil_of_length_eq_zero hn, peaks_nil, ones_zero]
      rfl
    · rw [peaks_more, List.length_append, ih (n / 2) (by omega) (pairs w hs) (by rw [pairs_length, hn]), odd1_length, hn, ones_more n]
      omega

theorem pairs_32 (w : Int) : ∀ (hs : List Hs), ∀ x ∈ pairs w hs, x.length = 32
  | [], x, h => by cases h
  | [_], x, h => by cases h
  | a :: b :: t, x, h => by
    rcases List.mem_cons.1 h with h | h
    · rw [h, nodeH_length]
    · exact pairs_32 w t x h
theorem odd1_mem : ∀ (hs : List Hs), ∀ x ∈ odd1 hs, x ∈ hs
  | [], x, h => h
  | [_], x, h => h
  | a :: b :: t, x, h => by
    have := odd1_mem t x h
    simp [this]
theorem peaks_32 (w : Int) : ∀ (n : Nat) (hs : List Hs), hs.length = n → (∀ x ∈ hs, x.length = 32) → ∀ x ∈ peaks w hs, x.length = 32 := by
  intro n
  induction n using Nat.strongRecOn with
  | ind n ih =>
    intro hs hn h x hx
    by_cases h0 : n = 0
    · rw [List.eq_nil_of_length_eq_zero (hn.trans h0), peaks_nil] at hx
      cases hx
    · rw [peaks_more] at hx
      rcases List.mem_append.1 hx with hx | hx
      · exact ih (n / 2) (by omega) (pairs w hs) (by rw [pairs_length, hn]) (pairs_32 w hs) x hx
      · exact h x (odd1_mem hs x hx)

/-- A leaf is pushed: the last two become their node, as long as the bits are 1. -/
def merge (w : Int) (n : Nat) (ps : List Hs) (h : Hs) : List Hs :=
  if n % 2 = 1 then merge w (n / 2) ps.dropLast (nodeH w (ps.getLastD []) h) else ps ++ [h]
termination_by n
decreasing_by omega

theorem merge_odd (w : Int) (n : Nat) (ps : List Hs) (h : Hs) (ho : n % 2 = 1) : merge w n ps h = merge w (n / 2) ps.dropLast (nodeH w (ps.getLastD []) h) := by rw [merge, if_pos ho]
theorem merge_even (w : Int) (n : Nat) (ps : List Hs) (h : Hs) (ho : n % 2 = 0) : merge w n ps h = ps ++ [h] := by rw [merge, if_neg (by omega)]

theorem odd_form (hs : List Hs) (h : hs.length % 2 = 1) : ∃ a x, hs = a ++ [x] ∧ a.length % 2 = 0 := by
  have hne : hs ≠ [] := by
    intro e
    rw [e] at h
    simp at h
  refine ⟨hs.dropLast, hs.getLast hne, (List.dropLast_concat_getLast hne).symm, ?_⟩
  rw [List.length_dropLast]
  omega

theorem peaks_push (w : Int) : ∀ (n : Nat) (hs : List Hs) (h : Hs), hs.length = n → peaks w (hs ++ [h]) = merge w n (peaks w hs) h := by
  intro n
  induction n using Nat.strongRecOn with
  | ind n ih =>
    intro hs h hn
    by_cases ho : n % 2 = 1
    · obtain ⟨a, x, rfl, ha⟩ := odd_form hs (by rw [hn]; exact ho)
      have hal : a.length = n - 1 := by simp at hn; omega
      have e1 : peaks w (a ++ [x]) = peaks w (pairs w a) ++ [x] := by
        rw [peaks_more, pairs_append w _ _ ha, odd1_append _ _ ha]
        simp [pairs, odd1]
      have e2 : peaks w (a ++ [x] ++ [h]) = peaks w (pairs w a ++ [nodeH w x h]) := by
        rw [peaks_more, List.append_assoc, pairs_append w _ _ ha, odd1_append _ _ ha]
        simp [pairs, odd1]
      rw [e2, merge_odd w n _ _ ho, e1, List.dropLast_concat]
      have e3 : (peaks w (pairs w a) ++ [x]).getLastD [] = x := by simp
      rw [e3]
      exact ih (n / 2) (by omega) (pairs w a) _ (by rw [pairs_length, hal]; omega)
    · have ha : hs.length % 2 = 0 := by omega
      rw [merge_even w n _ _ (by omega), peaks_more w (hs ++ [h]), pairs_append w _ _ ha, odd1_append _ _ ha, peaks_more w hs, odd1_even hs ha]
      simp [pairs, odd1]

/-- The root over peaks. -/
def peakF (w : Int) (ps : List Hs) : Hs := if ps = [] then emptyH w else ps.dropLast.foldr (nodeH w) (ps.getLastD [])

theorem root_fold (w : Int) : ∀ (n : Nat) (hs : List Hs) (x : Hs), hs.length = n → rootH w (hs ++ [x]) = (peaks w hs).foldr (nodeH w) x := by
  intro n
  induction n using Nat.strongRecOn with
  | ind n ih =>
    intro hs x hn
    by_cases h0 : n = 0
    · rw [List.eq_nil_of_length_eq_zero (hn.trans h0), peaks_nil]
      exact rootH_one w x
    by_cases ho : n % 2 = 1
    · obtain ⟨a, y, rfl, ha⟩ := odd_form hs (by rw [hn]; exact ho)
      have hal : a.length = n - 1 := by simp at hn; omega
      have e1 : peaks w (a ++ [y]) = peaks w (pairs w a) ++ [y] := by
        rw [peaks_more, pairs_append w _ _ ha, odd1_append _ _ ha]
        simp [pairs, odd1]
      rw [← rootH_pairs w _ _ rfl, List.append_assoc, pairs_append w _ _ ha, odd1_append _ _ ha, e1, List.foldr_append]
      have := ih (n / 2) (by omega) (pairs w a) (nodeH w y x) (by rw [pairs_length, hal]; omega)
      simpa [pairs, odd1] using this
    · have ha : hs.length % 2 = 0 := by omega
      rw [← rootH_pairs w _ _ rfl, pairs_append w _ _ ha, odd1_append _ _ ha, peaks_more w hs, odd1_even hs ha, List.append_nil]
      have := ih (n / 2) (by omega) (pairs w hs) x (by rw [pairs_length, hn])
      simpa [pairs, odd1] using this

theorem peakF_peaks (w : Int) : ∀ (n : Nat) (hs : List Hs), hs.length = n → peakF w (peaks w hs) = rootH w hs := by
  intro n
  induction n using Nat.strongRecOn with
  | ind n ih =>
    intro hs hn
    by_cases h0 : n = 0
    · rw [List.eq_nil_of_length_eq_zero (hn.trans h0), peaks_nil, rootH_nil]
      rfl
    by_cases ho : n % 2 = 1
    · obtain ⟨a, y, rfl, ha⟩ := odd_form hs (by rw [hn]; exact ho)
      have e1 : peaks w (a ++ [y]) = peaks w a ++ [y] := by
        rw [peaks_more, pairs_append w _ _ ha, odd1_append _ _ ha, peaks_more w a, odd1_even a ha]
        simp [pairs, odd1]
      rw [e1, root_fold w _ a y rfl]
      simp [peakF]
    · have ha : hs.length % 2 = 0 := by omega
      rw [peaks_more w hs, odd1_even hs ha, List.append_nil, ih (n / 2) (by omega) (pairs w hs) (by rw [pairs_length, hn]), ← rootH_pairs w _ hs rfl, odd1_even hs ha, List.append_nil]

/-- The first peak is the root over the greatest power of 2 of leaves. -/
theorem peaks_top (w : Int) : ∀ (n : Nat) (hs : List Hs) (j : Nat), hs.length = n → 2 ^ j ≤ n → n < 2 * 2 ^ j → peaks w hs = rootH w (hs.take (2 ^ j)) :: peaks w (hs.drop (2 ^ j)) := by
  intro n
  induction n using Nat.strongRecOn with
  | ind n ih =>
    intro hs j hn h1 h2
    cases j with
    | zero =>
      match hs with
      | [x] =>
        simp [peaks_nil, rootH_one]
        rw [peaks_more]
        simp [pairs, odd1, peaks_nil]
      | [] => simp at hn h1; omega
      | _ :: _ :: _ => simp at hn h2; omega
    | succ j =>
      rw [Nat.pow_succ, Nat.mul_comm] at h1 h2 ⊢
      have hp : 0 < 2 ^ j := Nat.pow_pos (by decide)
      rw [peaks_more w hs, ih (n / 2) (by omega) (pairs w hs) j (by rw [pairs_length, hn]) (by omega) (by omega), take_pairs w hs _ (by omega), drop_pairs w hs _ (by omega), peaks_more w (hs.drop _), odd1_drop hs _ (by omega), List.cons_append]
      congr 1
      have := rootH_pairs w _ (hs.take (2 * 2 ^ j)) rfl
      rwa [odd1_even _ (by rw [List.length_take]; omega), List.append_nil] at this
end Go.Proofs.YtdhfabjkpffhnaaDoor.LeafMath
