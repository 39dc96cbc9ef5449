/- Plain facts on proofs that a leaf stands in a tree. No program is named here. -/
import Derived.Test.YtdhfabjkpffhnaaDoorLeafMath
namespace Go.Proofs.YtdhfabjkpffhnaaDoor.PathMath
set_option maxRecDepth 20000
open ShaMath LeafMath

/-- How many hashes the proof of leaf i of n has. -/
def sizeP (i n : Nat) : Nat :=
  if _h : i < n ∧ 2 ≤ n then (if i < splitN n then sizeP i (splitN n) + 1 else sizeP (i - splitN n) (n - splitN n) + 1) else 0
termination_by n
decreasing_by
  all_goals
    have := splitN_lt (n := n) (by omega)
    have := splitN_pos n
    omega

theorem sizeP_out (i n : Nat) (h : n ≤ i) : sizeP i n = 0 := by rw [sizeP, dif_neg (by omega)]
theorem sizeP_one (i : Nat) : sizeP i 1 = 0 := by rw [sizeP, dif_neg (by omega)]
theorem sizeP_left {i n : Nat} (h2 : 2 ≤ n) (hi : i < splitN n) : sizeP i n = sizeP i (splitN n) + 1 := by
  have := splitN_lt h2
  rw [sizeP, dif_pos ⟨by omega, h2⟩, if_pos hi]
theorem sizeP_right {i n : Nat} (h2 : 2 ≤ n) (hi : ¬ i < splitN n) (hn : i < n) : sizeP i n = sizeP (i - splitN n) (n - splitN n) + 1 := by
  rw [sizeP, dif_pos ⟨hn, h2⟩, if_neg hi]

/-- The proof of leaf i. -/
def proveP (w : Int) (hs : List Hs) (i : Nat) : List Hs :=
  if _h : 2 ≤ hs.length then
    (if i < splitN hs.length then proveP w (hs.take (splitN hs.length)) i ++ [rootH w (hs.drop (splitN hs.length))]
     else proveP w (hs.drop (splitN hs.length)) (i - splitN hs.length) ++ [rootH w (hs.take (splitN hs.length))])
  else []
termination_by hs.length
decreasing_by
  all_goals
    have := splitN_lt (n := hs.length) (by omega)
    have := splitN_pos hs.length
    simp
    omega

theorem proveP_one (w : Int) (hs : List Hs) (i : Nat) (h : hs.length < 2) : proveP w hs i = [] := by rw [proveP, dif_neg (by omega)]
theorem proveP_left (w : Int) (hs : List Hs) (i : Nat) (h : 2 ≤ hs.length) (hi : i < splitN hs.length) : proveP w hs i = proveP w (hs.take (splitN hs.length)) i ++ [rootH w (hs.drop (splitN hs.length))] := by
  rw [proveP, dif_pos h, if_pos hi]
theorem proveP_right (w : Int) (hs : List Hs) (i : Nat) (h : 2 ≤ hs.length) (hi : ¬ i < splitN hs.length) : proveP w hs i = proveP w (hs.drop (splitN hs.length)) (i - splitN hs.length) ++ [rootH w (hs.take (splitN hs.length))] := by
  rw [proveP, dif_pos h, if_neg hi]

theorem proveP_length (w : Int) : ∀ (n : Nat) (hs : List Hs) (i : Nat), hs.length = n → i < n → (proveP w hs i).length = sizeP i n := by
  intro n
  induction n using Nat.strongRecOn with
  | ind n ih =>
    intro hs i hn hi
    subst hn
    by_cases h2 : 2 ≤ hs.length
    · have hlt := splitN_lt h2
      have hp := splitN_pos hs.length
      by_cases hk : i < splitN hs.length
      · rw [proveP_left w hs i h2 hk, sizeP_left h2 hk, List.length_append, ih (splitN hs.length) hlt _ i (by rw [List.length_take]; omega) hk]
        rfl
      · rw [proveP_right w hs i h2 hk, sizeP_right h2 hk hi, List.length_append, ih (hs.length - splitN hs.length) (by omega) _ _ (by rw [List.length_drop]) (by omega)]
        rfl
    · rw [proveP_one w hs i (by omega), sizeP, dif_neg (by omega)]
      rfl

theorem proveP_32 (w : Int) : ∀ (n : Nat) (hs : List Hs) (i : Nat), hs.length = n → (∀ x ∈ hs, x.length = 32) → ∀ x ∈ proveP w hs i, x.length = 32 := by
  intro n
  induction n using Nat.strongRecOn with
  | ind n ih =>
    intro hs i hn h x hx
    subst hn
    by_cases h2 : 2 ≤ hs.length
    · have hlt := splitN_lt h2
      have hp := splitN_pos hs.length
      by_cases hk : i < splitN hs.length
      · rw [proveP_left w hs i h2 hk] at hx
        rcases List.mem_append.1 hx with hx | hx
        · exact ih (splitN hs.length) hlt _ i (by rw [List.length_take]; omega) (fun y hy => h y (List.mem_of_mem_take hy)) x hx
        · rw [List.mem_singleton.1 hx]
          exact rootH_length w _ fun y hy => h y (List.mem_of_mem_drop hy)
      · rw [proveP_right w hs i h2 hk] at hx
        rcases List.mem_append.1 hx with hx | hx
        · exact ih (hs.length - splitN hs.length) (by omega) _ _ (by rw [List.length_drop]) (fun y hy => h y (List.mem_of_mem_drop hy)) x hx
        · rw [List.mem_singleton.1 hx]
          exact rootH_length w _ fun y hy => h y (List.mem_of_mem_take hy)
    · rw [proveP_one w hs i (by omega)] at hx
      cases hx

/-- The climb by a proof of the right length. -/
def climbP (w : Int) (i n : Nat) (p : List Hs) (h : Hs) : Hs :=
  if _h : 2 ≤ n then
    (if i < splitN n then nodeH w (climbP w i (splitN n) p.dropLast h) (p.getLastD [])
     else nodeH w (p.getLastD []) (climbP w (i - splitN n) (n - splitN n) p.dropLast h))
  else h
termination_by n
decreasing_by
  all_goals
    have := splitN_lt (n := n) (by omega)
    have := splitN_pos n
    omega

theorem climbP_one (w : Int) (i n : Nat) (p : List Hs) (h : Hs) (hn : n < 2) : climbP w i n p h = h := by rw [climbP, dif_neg (by omega)]
theorem climbP_left (w : Int) {i n : Nat} (p : List Hs) (h : Hs) (h2 : 2 ≤ n) (hi : i < splitN n) : climbP w i n p h = nodeH w (climbP w i (splitN n) p.dropLast h) (p.getLastD []) := by
  rw [climbP, dif_pos h2, if_pos hi]
theorem climbP_right (w : Int) {i n : Nat} (p : List Hs) (h : Hs) (h2 : 2 ≤ n) (hi : ¬ i < splitN n) : climbP w i n p h = nodeH w (p.getLastD []) (climbP w (i - splitN n) (n - splitN n) p.dropLast h) := by
  rw [climbP, dif_pos h2, if_neg hi]

theorem climbP_length (w : Int) (i n : Nat) (p : List Hs) (h : Hs) (hh : h.length = 32) : (climbP w i n p h).length = 32 := by
  by_cases h2 : 2 ≤ n
  · by_cases hi : i < splitN n
    · rw [climbP_left w p h h2 hi, nodeH_length]
    · rw [climbP_right w p h h2 hi, nodeH_length]
  · rw [climbP_one w i n p h (by omega), hh]

/-- The proof passes. -/
theorem climb_prove (w : Int) : ∀ (n : Nat) (hs : List Hs) (i : Nat) (x : Hs), hs.length = n → hs[i]? = some x → climbP w i n (proveP w hs i) x = rootH w hs := by
  intro n
  induction n using Nat.strongRecOn with
  | ind n ih =>
    intro hs i x hn hx
    subst hn
    have hi : i < hs.length := (List.getElem?_eq_some_iff.1 hx).1
    by_cases h2 : 2 ≤ hs.length
    · have hlt := splitN_lt h2
      have hp := splitN_pos hs.length
      rw [rootH_more w hs h2]
      by_cases hk : i < splitN hs.length
      · rw [proveP_left w hs i h2 hk, climbP_left w _ _ h2 hk, List.dropLast_concat, ih (splitN hs.length) hlt (hs.take (splitN hs.length)) i x (by rw [List.length_take]; omega) (by rw [List.getElem?_take, if_pos hk]; exact hx)]
        simp
      · rw [proveP_right w hs i h2 hk, climbP_right w _ _ h2 hk, List.dropLast_concat, ih (hs.length - splitN hs.length) (by omega) (hs.drop (splitN hs.length)) (i - splitN hs.length) x (by rw [List.length_drop]) (by rw [List.getElem?_drop, show splitN hs.length + (i - splitN hs.length) = i by omega]; exact hx)]
        simp
    · match hs with
      | [] => simp at hi
      | [y] =>
        obtain rfl : i = 0 := by simp at hi; omega
        simp at hx
        subst hx
        rw [rootH_one, climbP_one _ _ _ _ _ (by simp)]
      | _ :: _ :: _ => simp at h2

/-! ### From the leaf upwards -/

/-- Half of a power: the split one level up. -/
theorem splitN_up {n : Nat} (h : 3 ≤ n) : splitN n = 2 * splitN ((n + 1) / 2) := by
  obtain ⟨j, hj⟩ := splitN_even h
  have a := splitN_lt (n := n) (by omega)
  have b := splitN_ge (n := n) (by omega)
  rw [splitN_is (n := (n + 1) / 2) (j := j) (by omega) (by omega), hj]

theorem sizeP_up : ∀ (n i : Nat), 2 ≤ n → i < n → sizeP i n = sizeP (i / 2) ((n + 1) / 2) + (if i % 2 = 0 ∧ i + 1 = n then 0 else 1) := by
  intro n
  induction n using Nat.strongRecOn with
  | ind n ih =>
    intro i h2 hi
    by_cases h3 : 3 ≤ n
    · have hlt := splitN_lt h2
      have hge := splitN_ge h2
      have hup := splitN_up h3
      have hp := splitN_pos ((n + 1) / 2)
      have h2' : 2 ≤ (n + 1) / 2 := by omega
      have hlt' := splitN_lt h2'
      by_cases hk : i < splitN n
      · have e1 := ih (splitN n) hlt i (by omega) hk
        rw [sizeP_left h2 hk, e1, sizeP_left (i := i / 2) (n := (n + 1) / 2) h2' (by omega)]
        rw [if_neg (by omega), if_neg (by omega), show (splitN n + 1) / 2 = splitN ((n + 1) / 2) by omega]
      · rw [sizeP_right h2 hk hi, sizeP_right (i := i / 2) (n := (n + 1) / 2) h2' (by omega) (by omega)]
        by_cases h1 : n - splitN n = 1
        · rw [h1, sizeP_one, show (n + 1) / 2 - splitN ((n + 1) / 2) = 1 by omega, sizeP_one, if_pos (by omega)]
        · rw [ih (n - splitN n) (by omega) (i - splitN n) (by omega) (by omega), show (i - splitN n) / 2 = i / 2 - splitN ((n + 1) / 2) by omega, show (n - splitN n + 1) / 2 = (n + 1) / 2 - splitN ((n + 1) / 2) by omega]
          by_cases hc : i % 2 = 0 ∧ i + 1 = n
          · rw [if_pos hc, if_pos (by omega)]
          · rw [if_neg hc, if_neg (by omega)]
    · obtain rfl : n = 2 := by omega
      have e : splitN 2 = 1 := by decide +kernel
      by_cases h0 : i = 0
      · subst h0
        rw [sizeP_left (by omega) (by omega), e, sizeP_one]
        simp
      · obtain rfl : i = 1 := by omega
        rw [sizeP_right (by omega) (by omega) (by omega), e]
        simp [sizeP_one]

theorem climb_last (w : Int) {i n : Nat} (p : List Hs) (h : Hs) (h2 : 2 ≤ n) (ho : i % 2 = 0) (hi : i + 1 = n) (hl : p.length = sizeP i n) : climbP w i n p h = climbP w (i / 2) ((n + 1) / 2) p h := by
  induction n using Nat.strongRecOn generalizing i p with
  | ind n ih =>
    have h3 : 3 ≤ n := by omega
    have hlt := splitN_lt h2
    have hge := splitN_ge h2
    have hup := splitN_up h3
    have hp := splitN_pos ((n + 1) / 2)
    have h2' : 2 ≤ (n + 1) / 2 := by omega
    have hlt' := splitN_lt h2'
    have hk : ¬ i < splitN n := by omega
    rw [climbP_right w _ _ h2 hk, climbP_right w (i := i / 2) (n := (n + 1) / 2) _ _ h2' (by omega)]
    by_cases h1 : n - splitN n = 1
    · rw [climbP_one _ _ _ _ _ (by omega), climbP_one _ _ _ _ _ (by omega)]
    · have hs := sizeP_right (i := i) (n := n) h2 hk (by omega)
      rw [ih (n - splitN n) (by omega) (i := i - splitN n) p.dropLast (by omega) (by omega) (by omega) (by rw [List.length_dropLast, hl, hs]; rfl), show (i - splitN n) / 2 = i / 2 - splitN ((n + 1) / 2) by omega, show (n - splitN n + 1) / 2 = (n + 1) / 2 - splitN ((n + 1) / 2) by omega]

/-- One hash of the proof, the lowest. -/
theorem climb_up (w : Int) : ∀ (n i : Nat) (x : Hs) (p : List Hs) (h : Hs), 2 ≤ n → i < n → ¬ (i % 2 = 0 ∧ i + 1 = n) → p.length + 1 = sizeP i n →
    climbP w i n (x :: p) h = climbP w (i / 2) ((n + 1) / 2) p (if i % 2 = 1 then nodeH w x h else nodeH w h x) := by
  intro n
  induction n using Nat.strongRecOn with
  | ind n ih =>
    intro i x p h h2 hi hc hl
    by_cases h3 : 3 ≤ n
    · have hlt := splitN_lt h2
      have hge := splitN_ge h2
      have hup := splitN_up h3
      have hp := splitN_pos ((n + 1) / 2)
      have h2' : 2 ≤ (n + 1) / 2 := by omega
      have hlt' := splitN_lt h2'
      by_cases hk : i < splitN n
      · have hs := sizeP_left h2 hk
        have hs2 := sizeP_up (splitN n) i (by omega) hk
        have hne : p ≠ [] := by
          intro e
          have hl0 : p.length = 0 := by rw [e]; rfl
          rw [if_neg (by omega)] at hs2
          omega
        rw [climbP_left w _ _ h2 hk, climbP_left w (i := i / 2) (n := (n + 1) / 2) _ _ h2' (by omega), List.dropLast_cons_of_ne_nil hne, ih (splitN n) hlt i x p.dropLast h (by omega) hk (by omega) (by rw [List.length_dropLast]; have := List.length_pos_iff.2 hne; omega),
          show (splitN n + 1) / 2 = splitN ((n + 1) / 2) by omega]
        congr 1
        obtain ⟨y, q, rfl⟩ := List.exists_cons_of_ne_nil hne
        simp [List.getLastD]
      · have hs := sizeP_right h2 hk hi
        have h1 : ¬ n - splitN n = 1 := by omega
        have hs2 := sizeP_up (n - splitN n) (i - splitN n) (by omega) (by omega)
        have hne : p ≠ [] := by
          intro e
          have hl0 : p.length = 0 := by rw [e]; rfl
          rw [if_neg (by omega)] at hs2
          omega
        rw [climbP_right w _ _ h2 hk, climbP_right w (i := i / 2) (n := (n + 1) / 2) _ _ h2' (by omega), List.dropLast_cons_of_ne_nil hne, ih (n - splitN n) (by omega) (i - splitN n) x p.dropLast h (by omega) (by omega) (by omega) (by rw [List.length_dropLast]; have := List.length_pos_iff.2 hne; omega),
          show (i - splitN n) / 2 = i / 2 - splitN ((n + 1) / 2) by omega, show (n - splitN n + 1) / 2 = (n + 1) / 2 - splitN ((n + 1) / 2) by omega, show (i - splitN n) % 2 = i % 2 by omega]
        congr 1
        obtain ⟨y, q, rfl⟩ := List.exists_cons_of_ne_nil hne
        simp [List.getLastD]
    · obtain rfl : n = 2 := by omega
      have e : splitN 2 = 1 := by decide +kernel
      by_cases h0 : i = 0
      · subst h0
        rw [sizeP_left (by omega) (by omega), e, sizeP_one] at hl
        obtain rfl : p = [] := List.eq_nil_of_length_eq_zero (by omega)
        rw [climbP_left w _ _ (by omega) (by omega), climbP_one _ _ _ _ _ (by omega), climbP_one _ _ _ _ _ (by omega)]
        simp
      · obtain rfl : i = 1 := by omega
        rw [sizeP_right (by omega) (by omega) (by omega), e, sizeP_one] at hl
        obtain rfl : p = [] := List.eq_nil_of_length_eq_zero (by omega)
        rw [climbP_right w _ _ (by omega) (by omega), climbP_one _ _ _ _ _ (by omega), climbP_one _ _ _ _ _ (by omega)]
        simp

/-- A tree of 2^k leaves. -/
theorem sizeP_pow : ∀ (k i : Nat), i < 2 ^ k → sizeP i (2 ^ k) = k := by
  intro k
  induction k with
  | zero => intro i _; exact sizeP_one i
  | succ k ih =>
    intro i hi
    have hp : 0 < 2 ^ k := Nat.pow_pos (by decide)
    have e : 2 ^ (k + 1) = 2 * 2 ^ k := by rw [Nat.pow_succ]; omega
    rw [e] at hi ⊢
    have hs : splitN (2 * 2 ^ k) = 2 ^ k := splitN_is (by omega) (by omega)
    by_cases hk : i < splitN (2 * 2 ^ k)
    · rw [sizeP_left (by omega) hk, hs, ih i (by omega)]
    · rw [sizeP_right (by omega) hk (by omega), hs, show 2 * 2 ^ k - 2 ^ k = 2 ^ k by omega, ih _ (by omega)]

theorem sizeP_le : ∀ (k n i : Nat), n ≤ 2 ^ k → sizeP i n ≤ k := by
  intro k
  induction k with
  | zero => intro n i h; rw [sizeP, dif_neg (by simp at h; omega)]; omega
  | succ k ih =>
    intro n i h
    rw [Nat.pow_succ] at h
    by_cases hc : i < n ∧ 2 ≤ n
    · rw [sizeP_up n i hc.2 hc.1]
      have := ih ((n + 1) / 2) (i / 2) (by omega)
      split <;> omega
    · rw [sizeP, dif_neg hc]
      omega
/-- What is given where nothing is. -/
def z32 : Hs := List.replicate 32 0
end Go.Proofs.YtdhfabjkpffhnaaDoor.PathMath
