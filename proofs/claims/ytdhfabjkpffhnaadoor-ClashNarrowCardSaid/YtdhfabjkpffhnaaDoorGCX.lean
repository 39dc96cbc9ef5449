/- Joined: ClashTrMath, ClashTree, ClashDown, ClashMet, ClashTrees. -/
import Derived.Test.YtdhfabjkpffhnaaDoorClashMathC
import Derived.Test.YtdhfabjkpffhnaaDoorGCZ
import Derived.Test.YtdhfabjkpffhnaaDoorGCC
import Derived.Test.YtdhfabjkpffhnaaDoorOnly
import Derived.Test.YtdhfabjkpffhnaaDoorGCB
import Derived.Test.YtdhfabjkpffhnaaDoorLeafConvC
/- Trees as the program of layer 17 knows them, and the way down two of them. No program is named here. -/
namespace Go.Proofs.YtdhfabjkpffhnaaDoor.ClashMath
set_option maxRecDepth 20000
open ShaMath LeafMath PathMath GrowthMath

/-- A tree: its root alone, a text's, or a node's. -/
inductive Tr
  | top (h : Hs)
  | text (h : Hs) (x : Bs)
  | node (h : Hs) (l r : Tr)

def Tr.root : Tr → Hs
  | .top h => h
  | .text h _ => h
  | .node h _ _ => h

/-- What was hashed for its root. -/
def Tr.said : Tr → Option Bs
  | .top _ => none
  | .text _ x => some (0 :: x)
  | .node _ l r => some (nodeT l.root r.root)

/-- The way down two trees. -/
def trDown : Tr → Tr → Option (Bs × Bs)
  | .node _ l r, .node _ l' r' => if nodeT l.root r.root ≠ nodeT l'.root r'.root then some (nodeT l.root r.root, nodeT l'.root r'.root) else (match trDown l l' with | some p => some p | none => trDown r r')
  | .text _ x, .text _ y => if x ≠ y then some (0 :: x, 0 :: y) else none
  | .text _ x, .node _ l r => some (0 :: x, nodeT l.root r.root)
  | .node _ l r, .text _ y => some (nodeT l.root r.root, 0 :: y)
  | .top _, _ => none
  | _, .top _ => none

theorem trDown_top (t : Tr) (h : Hs) : trDown t (.top h) = none := by cases t <;> rfl

/-- The tree of a list. -/
def trL (w : Int) (T : List Bs) : Tr :=
  if _h : 2 ≤ T.length then .node (rootT w T) (trL w (T.take (splitN T.length))) (trL w (T.drop (splitN T.length)))
  else (match T with | [] => .top (emptyH w) | x :: _ => .text (leafH w x) x)
termination_by T.length
decreasing_by
  all_goals
    have := splitN_lt (n := T.length) (by omega)
    have := splitN_pos T.length
    simp
    omega

theorem trL_nil (w : Int) : trL w [] = .top (emptyH w) := by rw [trL, dif_neg (by simp)]
theorem trL_one (w : Int) (x : Bs) : trL w [x] = .text (leafH w x) x := by rw [trL, dif_neg (by simp)]
theorem trL_more (w : Int) (T : List Bs) (h : 2 ≤ T.length) : trL w T = .node (rootT w T) (trL w (T.take (splitN T.length))) (trL w (T.drop (splitN T.length))) := by rw [trL, dif_pos h]

theorem trL_root (w : Int) (T : List Bs) : (trL w T).root = rootT w T := by
  by_cases h2 : 2 ≤ T.length
  · rw [trL_more w T h2]; rfl
  · match T, h2 with
    | [], _ => rw [trL_nil]; exact (rootH_nil w).symm
    | [x], _ => rw [trL_one, rootT_one]; rfl
    | _ :: _ :: _, h2 => simp at h2

theorem trL_down (w : Int) : ∀ (n : Nat) (a b : List Bs), a.length = n → b.length = n → 1 ≤ n → trDown (trL w a) (trL w b) = downT w a b := by
  intro n
  induction n using Nat.strongRecOn with
  | ind n ih =>
    intro a b ha hb h1
    by_cases h2 : 2 ≤ n
    · have ea := hashedT_more w a (by omega)
      have eb := hashedT_more w b (by omega)
      rw [ha] at ea
      rw [hb] at eb
      rw [trL_more w a (by omega), trL_more w b (by omega), trDown, trL_root, trL_root, trL_root, trL_root, ha, hb, ← ea, ← eb]
      by_cases he : hashedT w a = hashedT w b
      · have hlt := splitN_lt h2
        have hp := splitN_pos n
        rw [if_neg (by simpa using he), downT_more w a b he (by omega), ha,
          ih (splitN n) hlt _ _ (by rw [List.length_take]; omega) (by rw [List.length_take]; omega) hp,
          ih (n - splitN n) (by omega) (a.drop (splitN n)) (b.drop (splitN n)) (by rw [List.length_drop]; omega) (by rw [List.length_drop]; omega) (by omega)]
        cases downT w (a.take (splitN n)) (b.take (splitN n)) <;> rfl
      · rw [if_pos he, downT_ne w a b he]
    · match a, b, ha, hb with
      | [x], [y], _, _ =>
        rw [trL_one, trL_one, trDown]
        by_cases he : x = y
        · subst he
          rw [if_neg (by simp), downT_one w _ _ rfl (by simp)]
        · rw [if_pos he, downT_ne w _ _ (by rw [hashedT_one, hashedT_one]; simpa using he), hashedT_one, hashedT_one]
      | [], _, ha, _ => simp at ha; omega
      | _ :: _ :: _, _, ha, _ => simp at ha; omega
      | [x], [], ha, hb => simp at ha hb; omega
      | [x], _ :: _ :: _, ha, hb => simp at ha hb; omega

/-- What Lists finds. -/
theorem lists_down (w : Int) (a b : List Bs) (h1 : a.length = b.length) (h2 : rootT w a = rootT w b) : listsT w a b = (match trDown (trL w a) (trL w b) with | some p => (p, 0) | none => (([], []), 8)) := by
  rw [listsT, if_neg (by simpa using h1), if_neg (by simpa using h2)]
  by_cases h0 : a.length = 0
  · rw [if_pos h0]
    obtain rfl := List.eq_nil_of_length_eq_zero h0
    rw [trL_nil]
    rfl
  · rw [if_neg h0, trL_down w a.length a b rfl h1.symm (by omega)]
    cases downT w a b <;> rfl

/-! ### What a proof tells -/

/-- The tree that a proof shows over a part. -/
def trC (w : Int) (part : Tr) (i n : Nat) (p : List Hs) : Tr :=
  if _h : p = [] then part
  else if i < splitN n then .node (nodeH w (trC w part i (splitN n) p.dropLast).root (p.getLastD [])) (trC w part i (splitN n) p.dropLast) (.top (p.getLastD []))
  else .node (nodeH w (p.getLastD []) (trC w part (i - splitN n) (n - splitN n) p.dropLast).root) (.top (p.getLastD [])) (trC w part (i - splitN n) (n - splitN n) p.dropLast)
termination_by p.length
decreasing_by
  all_goals
    have := List.length_pos_iff.2 _h
    simp
    omega

theorem trC_nil (w : Int) (part : Tr) (i n : Nat) : trC w part i n [] = part := by rw [trC, dif_pos rfl]
theorem trC_left (w : Int) (part : Tr) (i n : Nat) (p : List Hs) (hp : p ≠ []) (hi : i < splitN n) : trC w part i n p = .node (nodeH w (trC w part i (splitN n) p.dropLast).root (p.getLastD [])) (trC w part i (splitN n) p.dropLast) (.top (p.getLastD [])) := by rw [trC, dif_neg hp, if_pos hi]
theorem trC_right (w : Int) (part : Tr) (i n : Nat) (p : List Hs) (hp : p ≠ []) (hi : ¬ i < splitN n) : trC w part i n p = .node (nodeH w (p.getLastD []) (trC w part (i - splitN n) (n - splitN n) p.dropLast).root) (.top (p.getLastD [])) (trC w part (i - splitN n) (n - splitN n) p.dropLast) := by rw [trC, dif_neg hp, if_neg hi]

theorem ne_nil_of {p : List Hs} {k : Nat} (h : p.length = k + 1) : p ≠ [] := fun e => by rw [e] at h; simp at h

theorem trC_path_root (w : Int) (x : Bs) : ∀ (n i : Nat) (p : List Hs), i < n → p.length = sizeP i n → (trC w (.text (leafH w x) x) i n p).root = climbP w i n p (leafH w x) := by
  intro n
  induction n using Nat.strongRecOn with
  | ind n ih =>
    intro i p hi hl
    by_cases h2 : 2 ≤ n
    · have hlt := splitN_lt h2
      have hp := splitN_pos n
      by_cases hk : i < splitN n
      · rw [sizeP_left h2 hk] at hl
        rw [trC_left w _ i n p (ne_nil_of hl) hk, climbP_left w p _ h2 hk, Tr.root, ih (splitN n) hlt i p.dropLast hk (by rw [List.length_dropLast]; omega)]
      · rw [sizeP_right h2 hk hi] at hl
        rw [trC_right w _ i n p (ne_nil_of hl) hk, climbP_right w p _ h2 hk, Tr.root, ih (n - splitN n) (by omega) (i - splitN n) p.dropLast (by omega) (by rw [List.length_dropLast]; omega)]
    · obtain rfl : n = 1 := by omega
      rw [sizeP_one] at hl
      obtain rfl := List.eq_nil_of_length_eq_zero hl
      rw [trC_nil, climbP_one _ _ _ _ _ (by decide)]
      rfl

theorem trC_path (w : Int) (x : Bs) : ∀ (n : Nat) (T : List Bs) (i : Nat) (p : List Hs) (t : Bs), T.length = n → T[i]? = some t → t ≠ x → p.length = sizeP i n → trDown (trL w T) (trC w (.text (leafH w x) x) i n p) = some (pathT w T i x p) := by
  intro n
  induction n using Nat.strongRecOn with
  | ind n ih =>
    intro T i p t hn hi hne hl
    subst hn
    have hlt : i < T.length := (List.getElem?_eq_some_iff.1 hi).1
    by_cases h2 : 2 ≤ T.length
    · have hk := splitN_lt h2
      have hk0 := splitN_pos T.length
      have eh := hashedT_more w T h2
      by_cases hik : i < splitN T.length
      · rw [sizeP_left h2 hik] at hl
        rw [trL_more w T h2, trC_left w _ i T.length p (ne_nil_of hl) hik, trDown, trL_root, trL_root, ← eh, trC_path_root w x _ i p.dropLast hik (by rw [List.length_dropLast]; omega), pathT_left w T i x p h2 hik]
        by_cases he : hashedT w T = nodeT (climbP w i (splitN T.length) p.dropLast (leafH w x)) (p.getLastD [])
        · rw [if_neg (by simpa [Tr.root] using he), if_neg (by simpa using he.symm), ih (splitN T.length) hk _ i p.dropLast t (by rw [List.length_take]; omega) (by rw [List.getElem?_take, if_pos hik]; exact hi) hne (by rw [List.length_dropLast]; omega)]
        · rw [if_pos (by simpa [Tr.root] using he), if_pos (fun e => he e.symm)]
          rfl
      · rw [sizeP_right h2 hik hlt] at hl
        rw [trL_more w T h2, trC_right w _ i T.length p (ne_nil_of hl) hik, trDown, trL_root, trL_root, ← eh, trC_path_root w x _ (i - splitN T.length) p.dropLast (by omega) (by rw [List.length_dropLast]; omega), pathT_right w T i x p h2 hik]
        by_cases he : hashedT w T = nodeT (p.getLastD []) (climbP w (i - splitN T.length) (T.length - splitN T.length) p.dropLast (leafH w x))
        · rw [if_neg (by simpa [Tr.root] using he), if_neg (by simpa using he.symm), trDown_top, ih (T.length - splitN T.length) (by omega) _ (i - splitN T.length) p.dropLast t (by rw [List.length_drop]) (by rw [List.getElem?_drop, show splitN T.length + (i - splitN T.length) = i by omega]; exact hi) hne (by rw [List.length_dropLast]; omega)]
        · rw [if_pos (by simpa [Tr.root] using he), if_pos (fun e => he e.symm)]
          rfl
    · match T, hlt, h2, hi with
      | [y], hlt, _, hi =>
        obtain rfl : i = 0 := by simp at hlt; omega
        simp at hi
        subst hi
        have hl0 : p.length = 0 := by rw [hl]; exact sizeP_one 0
        obtain rfl := List.eq_nil_of_length_eq_zero hl0
        rw [trL_one, trC_nil, pathT_one w [y] 0 x [] (by simp), trDown, if_pos hne]
        rfl
      | _ :: _ :: _, _, h2, _ => simp at h2

/-! ### An old root -/

theorem ones_none : ∀ (m : Nat), ones m = 0 → m = 0 := by
  intro m
  induction m using Nat.strongRecOn with
  | ind m ih =>
    intro h
    refine Decidable.byContradiction fun h0 => ?_
    rw [ones_more] at h
    have := ih (m / 2) (by omega) (by omega)
    omega
theorem ones_one : ∀ (m : Nat), ones m = 1 → ∃ j, m = 2 ^ j := by
  intro m
  induction m using Nat.strongRecOn with
  | ind m ih =>
    intro h
    have h0 : m ≠ 0 := fun e => by rw [e, ones_zero] at h; omega
    rw [ones_more] at h
    by_cases h1 : m % 2 = 1
    · have := ones_none (m / 2) (by omega)
      exact ⟨0, by omega⟩
    · obtain ⟨j, hj⟩ := ih (m / 2) (by omega) (by omega)
      exact ⟨j + 1, by rw [Nat.pow_succ]; omega⟩
theorem ones_pow (j : Nat) : ones (2 ^ j) = 1 := by
  induction j with
  | zero => rw [ones_more]; simp [ones_zero]
  | succ j ih => rw [ones_more, show 2 ^ (j + 1) % 2 = 0 by rw [Nat.pow_succ]; omega, show 2 ^ (j + 1) / 2 = 2 ^ j by rw [Nat.pow_succ]; omega, ih]

/-- A power of two stands in the left part, or is it all. -/
theorem pow_left {j n : Nat} (h : 2 ^ j < n) : 2 ^ j ≤ splitN n := by
  have h2 : 2 ≤ n := by have := Nat.pow_pos (n := j) (show 0 < 2 by decide); omega
  obtain ⟨k, hk⟩ := splitN_pow n
  have hge := splitN_ge h2
  rw [hk] at hge ⊢
  refine Nat.pow_le_pow_right (by decide) (Decidable.byContradiction fun hc => ?_)
  have := Nat.pow_le_pow_right (n := 2) (by decide) (show k + 1 ≤ j by omega)
  rw [Nat.pow_succ] at this
  omega

theorem getLastD_cons_tail (x : Hs) (q : List Hs) (h : q ≠ []) : (x :: q).getLastD [] = q.getLastD [] ∧ (x :: q).dropLast = x :: q.dropLast := by
  match q, h with
  | y :: r, _ => exact ⟨by simp [List.getLastD], rfl⟩

/-- Where the old tree is a part by itself: the old root is it. -/
theorem trC_pow (w : Int) (old : Hs) (j : Nat) : ∀ (n : Nat) (T : List Bs) (p : List Hs), T.length = n → 2 ^ j ≤ n → p.length = sizeG (2 ^ j) n true →
    (trC w (.top old) (2 ^ j - 1) n p).root = newerT w (2 ^ j) n old p true ∧ trDown (trL w T) (trC w (.top old) (2 ^ j - 1) n p) = growT w T (2 ^ j) old p true := by
  have h1 := Nat.pow_pos (n := j) (show 0 < 2 by decide)
  intro n
  induction n using Nat.strongRecOn with
  | ind n ih =>
    intro T p hn hm hl
    subst hn
    by_cases hlt : 2 ^ j < T.length
    · have h2 : 2 ≤ T.length := by omega
      have hk := splitN_lt h2
      have hmk := pow_left hlt
      have eh := hashedT_more w T h2
      rw [sizeG_left true hlt h2 hmk] at hl
      obtain ⟨i1, i2⟩ := ih (splitN T.length) hk (T.take (splitN T.length)) p.dropLast (by rw [List.length_take]; omega) hmk (by rw [List.length_dropLast]; omega)
      rw [trC_left w _ _ T.length p (ne_nil_of hl) (by omega)]
      refine ⟨?_, ?_⟩
      · rw [newerT, showG_left w old p true hlt h2 hmk, Tr.root, i1]
        rfl
      · rw [trL_more w T h2, trDown, trL_root, trL_root, ← eh, i1, i2, growT_left w T (2 ^ j) old p true hlt h2 hmk]
        by_cases he : hashedT w T = nodeT (newerT w (2 ^ j) (splitN T.length) old p.dropLast true) (p.getLastD [])
        · rw [if_neg (by simpa [Tr.root] using he), if_neg (by simpa using he.symm), trDown_top]
          cases growT w (T.take (splitN T.length)) (2 ^ j) old p.dropLast true <;> rfl
        · rw [if_pos (by simpa [Tr.root] using he), if_pos (fun e => he e.symm)]
          rfl
    · have e : 2 ^ j = T.length := by omega
      rw [e, sizeG_all] at hl
      obtain rfl := List.eq_nil_of_length_eq_zero hl
      rw [trC_nil, trDown_top, growT_all w T _ old [] true (by omega), newerT, e, showG_all]
      exact ⟨rfl, rfl⟩

/-- Where it isn't, the proof begins with the root of its last part. -/
theorem trC_more (w : Int) (x : Hs) : ∀ (n : Nat) (T : List Bs) (m : Nat) (old : Hs) (q : List Hs) (whole : Bool), T.length = n → 1 ≤ m → m ≤ n → (whole = false ∨ (m < n ∧ ones m ≠ 1)) → (x :: q).length = sizeG m n whole →
    (trC w (.top x) (m - 1) n q).root = newerT w m n old (x :: q) whole ∧ trDown (trL w T) (trC w (.top x) (m - 1) n q) = growT w T m old (x :: q) whole := by
  intro n
  induction n using Nat.strongRecOn with
  | ind n ih =>
    intro T m old q whole hn h1 hmn hw hl
    subst hn
    by_cases hlt : m < T.length
    · have h2 : 2 ≤ T.length := by omega
      have hk := splitN_lt h2
      have hk0 := splitN_pos T.length
      have eh := hashedT_more w T h2
      by_cases hmk : m ≤ splitN T.length
      · rw [sizeG_left whole hlt h2 hmk] at hl
        have hw2 : whole = false ∨ (m < splitN T.length ∧ ones m ≠ 1) := by
          rcases hw with hw | ⟨_, hw⟩
          · exact .inl hw
          · refine .inr ⟨?_, hw⟩
            refine Nat.lt_of_le_of_ne hmk fun e => hw ?_
            obtain ⟨j, hj⟩ := splitN_pow T.length
            rw [e, hj, ones_pow]
        have hpos : 1 ≤ sizeG m (splitN T.length) whole := by
          rcases hw2 with rfl | ⟨ha, _⟩
          · by_cases hc : m < splitN T.length
            · by_cases hd : m ≤ splitN (splitN T.length)
              · rw [sizeG_left false hc (by omega) hd]; omega
              · rw [sizeG_right false hc (by omega) hd]; omega
            · obtain rfl : m = splitN T.length := by omega
              rw [sizeG_all]; simp
          · by_cases hd : m ≤ splitN (splitN T.length)
            · rw [sizeG_left whole ha (by omega) hd]; omega
            · rw [sizeG_right whole ha (by omega) hd]; omega
        have hq : q ≠ [] := fun e => by rw [e] at hl; simp at hl; omega
        obtain ⟨e1, e2⟩ := getLastD_cons_tail x q hq
        have hql : 1 ≤ q.length := List.length_pos_iff.2 hq
        simp only [List.length_cons] at hl
        obtain ⟨i1, i2⟩ := ih (splitN T.length) hk (T.take (splitN T.length)) m old q.dropLast whole (by rw [List.length_take]; omega) h1 hmk hw2 (by rw [List.length_cons, List.length_dropLast]; omega)
        rw [trC_left w _ _ T.length q hq (by omega)]
        refine ⟨?_, ?_⟩
        · rw [newerT, showG_left w old (x :: q) whole hlt h2 hmk, Tr.root, i1, e1, e2]
          rfl
        · rw [trL_more w T h2, trDown, trL_root, trL_root, ← eh, i1, i2, growT_left w T m old (x :: q) whole hlt h2 hmk, e1, e2]
          by_cases he : hashedT w T = nodeT (newerT w m (splitN T.length) old (x :: q.dropLast) whole) (q.getLastD [])
          · rw [if_neg (by simpa [Tr.root] using he), if_neg (by simpa using he.symm), trDown_top]
            cases growT w (T.take (splitN T.length)) m old (x :: q.dropLast) whole <;> rfl
          · rw [if_pos (by simpa [Tr.root] using he), if_pos (fun e => he e.symm)]
            rfl
      · rw [sizeG_right whole hlt h2 hmk] at hl
        have hpos : 1 ≤ sizeG (m - splitN T.length) (T.length - splitN T.length) false := by
          by_cases hc : m - splitN T.length < T.length - splitN T.length
          · by_cases hd : m - splitN T.length ≤ splitN (T.length - splitN T.length)
            · rw [sizeG_left false hc (by omega) hd]; omega
            · rw [sizeG_right false hc (by omega) hd]; omega
          · rw [show m - splitN T.length = T.length - splitN T.length by omega, sizeG_all]; simp
        have hq : q ≠ [] := fun e => by rw [e] at hl; simp at hl; omega
        obtain ⟨e1, e2⟩ := getLastD_cons_tail x q hq
        have hql : 1 ≤ q.length := List.length_pos_iff.2 hq
        simp only [List.length_cons] at hl
        obtain ⟨i1, i2⟩ := ih (T.length - splitN T.length) (by omega) (T.drop (splitN T.length)) (m - splitN T.length) old q.dropLast false (by rw [List.length_drop]) (by omega) (by omega) (.inl rfl) (by rw [List.length_cons, List.length_dropLast]; omega)
        rw [show m - splitN T.length - 1 = m - 1 - splitN T.length by omega] at i1 i2
        rw [trC_right w _ _ T.length q hq (by omega)]
        refine ⟨?_, ?_⟩
        · rw [newerT, showG_right w old (x :: q) whole hlt h2 hmk, Tr.root, i1, e1, e2]
          rfl
        · rw [trL_more w T h2, trDown, trL_root, trL_root, ← eh, i1, i2, growT_right w T m old (x :: q) whole hlt h2 hmk, e1, e2, trDown_top]
          by_cases he : hashedT w T = nodeT (q.getLastD []) (newerT w (m - splitN T.length) (T.length - splitN T.length) old (x :: q.dropLast) false)
          · rw [if_neg (by simpa [Tr.root] using he), if_neg (by simpa using he.symm)]
          · rw [if_pos (by simpa [Tr.root] using he), if_pos (fun e => he e.symm)]
            rfl
    · obtain rfl : m = T.length := by omega
      obtain rfl : whole = false := by
        rcases hw with hw | ⟨hw, _⟩
        · exact hw
        · omega
      rw [sizeG_all] at hl
      obtain rfl : q = [] := by
        simp only [List.length_cons] at hl
        exact List.eq_nil_of_length_eq_zero (by simpa using hl)
      rw [trC_nil, trDown_top, growT_all w T _ old [x] false (Nat.le_refl _), newerT, showG_all]
      exact ⟨rfl, rfl⟩

/-! ### How long they are -/

theorem sizeG_leP : ∀ (n m : Nat) (old : Bool), 1 ≤ m → m ≤ n → sizeG m n old ≤ sizeP (m - 1) n + 1 := by
  intro n
  induction n using Nat.strongRecOn with
  | ind n ih =>
    intro m old h1 hm
    by_cases hlt : m < n
    · have h2 : 2 ≤ n := by omega
      have hk := splitN_lt h2
      have hk0 := splitN_pos n
      by_cases hmk : m ≤ splitN n
      · rw [sizeG_left old hlt h2 hmk, sizeP_left h2 (by omega)]
        have := ih (splitN n) hk m old h1 hmk
        omega
      · rw [sizeG_right old hlt h2 hmk, sizeP_right h2 (by omega) (by omega)]
        have := ih (n - splitN n) (by omega) (m - splitN n) false (by omega) (by omega)
        rw [show m - splitN n - 1 = m - 1 - splitN n by omega] at this
        omega
    · obtain rfl : m = n := by omega
      rw [sizeG_all]
      cases old <;> simp
theorem sizeG_pow_leP (j : Nat) : ∀ (n : Nat), 2 ^ j ≤ n → sizeG (2 ^ j) n true ≤ sizeP (2 ^ j - 1) n := by
  have h1 := Nat.pow_pos (n := j) (show 0 < 2 by decide)
  intro n
  induction n using Nat.strongRecOn with
  | ind n ih =>
    intro hm
    by_cases hlt : 2 ^ j < n
    · have h2 : 2 ≤ n := by omega
      have hk := splitN_lt h2
      have hmk := pow_left hlt
      rw [sizeG_left true hlt h2 hmk, sizeP_left h2 (by omega)]
      have := ih (splitN n) hk hmk
      omega
    · rw [show n = 2 ^ j by omega, sizeG_all]
      simp

/-- All roots that it tells have 32 bytes. -/
def Tr.ok : Tr → Prop
  | .top h => h.length = 32
  | .text h _ => h.length = 32
  | .node h l r => h.length = 32 ∧ l.ok ∧ r.ok
theorem Tr.ok.root {t : Tr} (h : t.ok) : t.root.length = 32 := by
  cases t with
  | top h => exact h
  | text _ _ => exact h
  | node _ _ _ => exact h.1
end Go.Proofs.YtdhfabjkpffhnaaDoor.ClashMath

/- Trees in the program's memory: made of a root, of a text, over two others. -/
namespace Go.Proofs.YtdhfabjkpffhnaaDoor
set_option maxRecDepth 20000
open Go.RowKit ShaMath LeafMath PathMath GrowthMath ClashMath Reg

theorem list32 (x : Hs) (h : x.length = 32) : ∃ a0 a1 a2 a3 a4 a5 a6 a7 a8 a9 a10 a11 a12 a13 a14 a15 a16 a17 a18 a19 a20 a21 a22 a23 a24 a25 a26 a27 a28 a29 a30 a31, x = [a0, a1, a2, a3, a4, a5, a6, a7, a8, a9, a10, a11, a12, a13, a14, a15, a16, a17, a18, a19, a20, a21, a22, a23, a24, a25, a26, a27, a28, a29, a30, a31] := by
  rcases x with _ | ⟨a0, x⟩
  · simp at h
  rcases x with _ | ⟨a1, x⟩
  · simp at h
  rcases x with _ | ⟨a2, x⟩
  · simp at h
  rcases x with _ | ⟨a3, x⟩
  · simp at h
  rcases x with _ | ⟨a4, x⟩
  · simp at h
  rcases x with _ | ⟨a5, x⟩
  · simp at h
  rcases x with _ | ⟨a6, x⟩
  · simp at h
  rcases x with _ | ⟨a7, x⟩
  · simp at h
  rcases x with _ | ⟨a8, x⟩
  · simp at h
  rcases x with _ | ⟨a9, x⟩
  · simp at h
  rcases x with _ | ⟨a10, x⟩
  · simp at h
  rcases x with _ | ⟨a11, x⟩
  · simp at h
  rcases x with _ | ⟨a12, x⟩
  · simp at h
  rcases x with _ | ⟨a13, x⟩
  · simp at h
  rcases x with _ | ⟨a14, x⟩
  · simp at h
  rcases x with _ | ⟨a15, x⟩
  · simp at h
  rcases x with _ | ⟨a16, x⟩
  · simp at h
  rcases x with _ | ⟨a17, x⟩
  · simp at h
  rcases x with _ | ⟨a18, x⟩
  · simp at h
  rcases x with _ | ⟨a19, x⟩
  · simp at h
  rcases x with _ | ⟨a20, x⟩
  · simp at h
  rcases x with _ | ⟨a21, x⟩
  · simp at h
  rcases x with _ | ⟨a22, x⟩
  · simp at h
  rcases x with _ | ⟨a23, x⟩
  · simp at h
  rcases x with _ | ⟨a24, x⟩
  · simp at h
  rcases x with _ | ⟨a25, x⟩
  · simp at h
  rcases x with _ | ⟨a26, x⟩
  · simp at h
  rcases x with _ | ⟨a27, x⟩
  · simp at h
  rcases x with _ | ⟨a28, x⟩
  · simp at h
  rcases x with _ | ⟨a29, x⟩
  · simp at h
  rcases x with _ | ⟨a30, x⟩
  · simp at h
  rcases x with _ | ⟨a31, x⟩
  · simp at h
  rcases x with _ | ⟨_, x⟩
  · exact ⟨_, _, _, _, _, _, _, _, _, _, _, _, _, _, _, _, _, _, _, _, _, _, _, _, _, _, _, _, _, _, _, _, rfl⟩
  · simp at h

/-- A tree's cells. -/
def trB (h : Hs) (b : Bool) (t l r : Value) : Array Value := bs h ++ #[.bool b, t, l, r]
theorem trB_root (h : Hs) (b : Bool) (t l r : Value) (j : Nat) (u : Value) (hj : (bs h)[j]? = some u) : (trB h b t l r)[j]? = some u := by
  have hl := (Array.getElem?_eq_some_iff.1 hj).1
  unfold trB
  rw [Array.getElem?_append_left hl]
  exact hj
theorem trB_at (h : Hs) (b : Bool) (t l r : Value) (hh : h.length = 32) (j : Nat) : (trB h b t l r)[32 + j]? = (#[.bool b, t, l, r] : Array Value)[j]? := by
  unfold trB
  rw [Array.getElem?_append_right (by rw [bs_size, hh]; omega), bs_size, hh]
  congr 1
  omega
theorem build_tr1 (h : Hs) (hh : h.length = 32) (W : World) : (Instr.build 78 #[(0, .agg (bs h))]).run Tryd.prog W = .ok (.agg (trB h false (.slice none 0 0) (.pointer none) (.pointer none))) W := by
  obtain ⟨a0, a1, a2, a3, a4, a5, a6, a7, a8, a9, a10, a11, a12, a13, a14, a15, a16, a17, a18, a19, a20, a21, a22, a23, a24, a25, a26, a27, a28, a29, a30, a31, rfl⟩ := list32 h hh
  kernel_rfl
theorem build_tr2 (h : Hs) (hh : h.length = 32) (a : Option Addr) (n c : Nat) (W : World) : (Instr.build 78 #[(0, .agg (bs h)), (1, .bool true), (2, .slice a n c)]).run Tryd.prog W = .ok (.agg (trB h true (.slice a n c) (.pointer none) (.pointer none))) W := by
  obtain ⟨a0, a1, a2, a3, a4, a5, a6, a7, a8, a9, a10, a11, a12, a13, a14, a15, a16, a17, a18, a19, a20, a21, a22, a23, a24, a25, a26, a27, a28, a29, a30, a31, rfl⟩ := list32 h hh
  kernel_rfl
theorem build_tr3 (h : Hs) (hh : h.length = 32) (p q : Option Addr) (W : World) : (Instr.build 78 #[(0, .agg (bs h)), (3, .pointer p), (4, .pointer q)]).run Tryd.prog W = .ok (.agg (trB h false (.slice none 0 0) (.pointer p) (.pointer q))) W := by
  obtain ⟨a0, a1, a2, a3, a4, a5, a6, a7, a8, a9, a10, a11, a12, a13, a14, a15, a16, a17, a18, a19, a20, a21, a22, a23, a24, a25, a26, a27, a28, a29, a30, a31, rfl⟩ := list32 h hh
  kernel_rfl

/-- A tree in memory. -/
def IsTr (W : World) : Tr → Value → Prop
  | .top h, v => h.length = 32 ∧ ∃ g, v = .pointer (some ⟨g, 0, none⟩) ∧ Blk W g 78 (trB h false (.slice none 0 0) (.pointer none) (.pointer none))
  | .text h x, v => h.length = 32 ∧ ∃ g a c, v = .pointer (some ⟨g, 0, none⟩) ∧ Blk W g 78 (trB h true (.slice a x.length c) (.pointer none) (.pointer none)) ∧ Bys W (.slice a x.length c) x ∧ x.length ≤ 4000
  | .node h l r, v => h.length = 32 ∧ ∃ g p q, v = .pointer (some ⟨g, 0, none⟩) ∧ Blk W g 78 (trB h false (.slice none 0 0) (.pointer (some p)) (.pointer (some q))) ∧ IsTr W l (.pointer (some p)) ∧ IsTr W r (.pointer (some q))

theorem IsTr.below {W W' : World} : ∀ {t : Tr} {v : Value}, IsTr W t v → Below W.heap.size W W' → IsTr W' t v
  | .top _, _, ⟨h1, g, h2, h3⟩, hb => ⟨h1, g, h2, h3.keep hb⟩
  | .text _ _, _, ⟨h1, g, a, c, h2, h3, h4, h5⟩, hb => ⟨h1, g, a, c, h2, h3.keep hb, h4.below (Nat.le_refl _) hb, h5⟩
  | .node _ _ _, _, ⟨h1, g, p, q, h2, h3, h4, h5⟩, hb => ⟨h1, g, p, q, h2, h3.keep hb, IsTr.below h4 hb, IsTr.below h5 hb⟩

/-- Any tree has a block, whose beginning is its root. -/
theorem IsTr.blk {W : World} {t : Tr} {v : Value} (h : IsTr W t v) : t.root.length = 32 ∧ ∃ g b x l r, v = .pointer (some ⟨g, 0, none⟩) ∧ Blk W g 78 (trB t.root b x l r) := by
  cases t with
  | top k => obtain ⟨h1, g, h2, h3⟩ := h; exact ⟨h1, g, _, _, _, _, h2, h3⟩
  | text k x => obtain ⟨h1, g, a, c, h2, h3, _⟩ := h; exact ⟨h1, g, _, _, _, _, h2, h3⟩
  | node k l r => obtain ⟨h1, g, p, q, h2, h3, _⟩ := h; exact ⟨h1, g, _, _, _, _, h2, h3⟩
/-- Its root, loaded. -/
theorem load_root {W : World} {g : Nat} {h : Hs} {b : Bool} {x l r : Value} (hb : Blk W g 78 (trB h b x l r)) (hh : h.length = 32) : (Instr.loadAt 24 (.pointer (some ⟨g, 0, none⟩))).run Tryd.prog W = .ok (.agg (bs h)) W :=
  load_hash W ⟨g, 0, none⟩ h hh fun j u hj => by rw [addr_add, hb.cell, Nat.zero_add]; exact trB_root h b x l r j u (by simpa [bs, hcs] using hj)

theorem load_ptr (W : World) (p : Addr) (v : Value) (h : W.cell? p = some v) : (Instr.loadAt 75 (.pointer (some p))).run Tryd.prog W = .ok v W := by
  have hagg : (isAgg 75).run Tryd.prog W = .ok false W := by kernel_rfl
  simp [Instr.loadAt, Instr.sureAddr, loadVar, Sem.run_bind, hagg, h]

/-- A struct built, in a walk. -/
theorem wpList_agg_by {P : Program} {w : World} {ops : Array Oper} {rest : List Oper} {o : Oper} {a : Act} {Q : Exit → Act → World → Prop} (hgd : o.guard = none) (ty : TypeId) (ps : Array (Nat × Operand)) (ho : o.op = .build ty ps)
    (vs : List (Nat × Value)) (c : Value) (hv : (ps.toList.map fun p => (p.1, a.eval p.2)) = vs) (hr : (Instr.build ty vs.toArray).run P w = .ok c w) (h : wpList P ops Q rest (a.put o.dst c) w) : wpList P ops Q (o :: rest) a w := by
  refine wpList_plain hgd fun K hK => ?_
  have e : execOp a.eval o = (do pure (.value (← Instr.build ty vs.toArray)) : Sem Next) := by
    have e1 : (ps.map fun p => (p.1, a.eval p.2)) = vs.toArray := by
      apply Array.toList_inj.1
      rw [Array.toList_map, hv]
    rw [← e1]
    simp only [execOp, ho]
  unfold Oper.wp
  rw [e]
  simp only [Sem.run_bind, hr, Result.andThen_ok]
  exact hK _ _ h

set_option maxRecDepth 100000 in
theorem ofRoot_any (h : Hs) (hh : h.length = 32) (w : World) : Calls Tryd.prog 70 #[.agg (bs h)] w fun e w' => ∃ u, e = .returned u ∧ IsTr w' (.top h) u ∧ Below w.heap.size w w' := by
  have HBd := Lib.hid (fun W => build_tr1 h hh W)
  have HSz := Lib.hid (size_hash (cs := bs h) (by rw [bs_size, hh]))
  have Hh := Lib.hid hh
  have HN := Lib.hid (Blk.new w 24 (bs h))
  obtain ⟨ch, hch⟩ : ∃ ch, ch = bs h := ⟨_, rfl⟩
  obtain ⟨ct, hct⟩ : ∃ ct, ct = trB h false (.slice none 0 0) (.pointer none) (.pointer none) := ⟨_, rfl⟩
  rw [← hch, ← hct] at HBd
  rw [← hch] at HSz HN ⊢
  have HCt := Lib.hid hct
  clear hh hch hct
  go_enter Tryd.func70, Tryd.ntmps70
  go_wp2_with (first
    | (refine wpList_load_row rfl 24 (.tmp 1) rfl w.heap.size rfl _ _ _ _ HN.out Tryd.underlying24 rfl HSz.out ?_)
    | (refine wpList_agg_by rfl 78 _ rfl [(0, .agg ch)] (.agg ct) rfl (HBd.out _) ?_))
  go_ret
  refine ⟨_, rfl, ⟨Hh.out, _, rfl, ?_⟩, ((Below.refl _ _).alloc (Nat.le_refl _) _).alloc (by simp) _⟩
  rw [← HCt.out]
  exact Blk.newAt _ _ _ _ _ (by simp) rfl

set_option maxRecDepth 100000 in
theorem ofText_any (n : Int) (hn : I64 n) (x : Bs) (v : Value) (w : World) (hv : Bys w v x) (hx : x.length ≤ 4000) (ht : Tabs w) :
    Calls Tryd.prog 66 #[.int .i64 n, v] w fun e w' => ∃ u, e = .returned u ∧ IsTr w' (.text (leafH n x) x) u ∧ Below w.heap.size w w' := by
  obtain ⟨a, c, rfl⟩ := hv.formZ
  obtain ⟨H, hH, hH32⟩ : ∃ H, H = leafH n x ∧ H.length = 32 := ⟨_, rfl, leafH_length _ _⟩
  obtain ⟨len, hlen⟩ : ∃ m, m = x.length := ⟨_, rfl⟩
  rw [← hlen] at hv ⊢
  have HLf := Lib.hid (leaf_any0 n x a len c w hn hv (by omega) ht)
  rw [← hH] at HLf ⊢
  have HBd := Lib.hid (fun W => build_tr2 H hH32 a len c W)
  obtain ⟨ch, hch⟩ : ∃ ch, ch = bs H := ⟨_, rfl⟩
  obtain ⟨ct, hct⟩ : ∃ ct, ct = trB H true (.slice a len c) (.pointer none) (.pointer none) := ⟨_, rfl⟩
  rw [← hch, ← hct] at HBd
  rw [← hch] at HLf
  have HCt := Lib.hid hct
  have HV := Lib.hid hv
  have HX := Lib.hid hx
  have HLen := Lib.hid hlen
  have HH32 := Lib.hid hH32
  clear hv hx hch hct hlen hH hH32 ht hn
  go_enter Tryd.func66, Tryd.ntmps66
  go_wp2_with fail
  refine HLf.out.mono ?_
  rintro e w1 ⟨rfl, hb⟩
  have HB1 := Lib.hid hb
  have HV1 := Lib.hid (HV.out.below (Nat.le_refl _) hb)
  clear hb HLf
  go_wp2_with (first
    | (refine wpList_agg_by rfl 78 _ rfl [(0, .agg ch), (1, .bool true), (2, .slice a len c)] (.agg ct) rfl (HBd.out _) ?_))
  go_ret
  refine ⟨_, rfl, ⟨HH32.out, _, a, c, rfl, ?_, ?_, HX.out⟩, HB1.out.alloc HB1.out.size _⟩
  · rw [← HLen.out, ← HCt.out]
    exact Blk.newAt _ _ _ _ _ rfl rfl
  · rw [← HLen.out]
    exact HV1.out.below (Nat.le_refl _) ((Below.refl _ _).alloc (Nat.le_refl _) _)

/-- A block that was just laid. -/
def boxF (B : Nat) (t : TypeId) (cs : Array Value) : Fact := .sat (fun v W => ∃ g, v = .pointer (some ⟨g, 0, none⟩) ∧ B ≤ g ∧ Blk W g t cs) fun _ _ _ ⟨g, h1, h2, h3⟩ hb => ⟨g, h1, h2, h3.keep hb⟩

section
variable {ops : Array Oper} {tab : List (List Nat)} {fin : List Tmp} {G : World → Prop} {f : Tmp → Fact} {i : Nat} {o : Oper}
theorem ask_nil (hg : guardOk ops f o) (s : Operand) (a : Addr) (ho : o.op = .nilCheck s) (hs : opFact f s = .is (.pointer (some a))) (hd : ∀ k, o.dst = some k → f k = .is (.pointer (some a))) : Asked Tryd.prog ops tab fin G f i o := by
  refine ask_val hg _ hd fun x W hW hk => ?_
  have e1 := evalBy_opVal hk s (by rw [ho]; simp [Op.operands]) hs
  simp [execOp, ho, e1]
theorem ask_agg (hg : guardOk ops f o) (ty : TypeId) (ps : Array (Nat × Operand)) (vs : List (Nat × Value)) (c : Value) (ho : o.op = .build ty ps) (hs : (ps.toList.all fun p => isIs (opFact f p.2)) = true) (hv : (ps.toList.map fun p => (p.1, opVal f p.2)) = vs) (hd : ∀ k, o.dst = some k → f k = .is c)
    (hr : ∀ W, (Instr.build ty vs.toArray).run Tryd.prog W = .ok c W) : Asked Tryd.prog ops tab fin G f i o := by
  refine ask_val hg c hd fun x W hW hk => ?_
  have e : (ps.map fun p => (p.1, evalBy x p.2)) = vs.toArray := by
    apply Array.toList_inj.1
    rw [Array.toList_map, ← hv]
    refine List.map_congr_left fun p hp => ?_
    have h2 := List.all_eq_true.1 hs p hp
    have h1 := told_op hk p.2 (by rw [ho]; simp only [Op.operands]; exact List.mem_map_of_mem hp)
    unfold opVal
    cases hf : opFact f p.2 with
    | is v => rw [hf] at h1; rw [show evalBy x p.2 = v from h1]
    | _ => rw [hf] at h2; cases h2
  have ee : execOp (evalBy x) o = (do pure (.value (← Instr.build ty vs.toArray)) : Sem Next) := by
    rw [← e]
    simp only [execOp, ho]
  rw [ee]
  simp only [Sem.run_bind, hr W, Result.andThen_ok]
  rfl
theorem ask_box (hG : ∀ W W', G W → Below W.heap.size W W' → G W') (hg : guardOk ops f o) (ty : TypeId) (s : Operand) (cs : Array Value) (B : Nat) (hB : ∀ W, G W → B ≤ W.heap.size) (ho : o.op = .box ty s) (hs : opFact f s = .is (.agg cs)) (hd : ∀ k, o.dst = some k → f k = boxF B ty cs) : Asked Tryd.prog ops tab fin G f i o := by
  refine ask_grow hG hg fun x W hW hk => ?_
  have e1 := evalBy_opVal hk s (by rw [ho]; simp [Op.operands]) hs
  refine gives_value (v := .pointer (some ⟨W.heap.size, 0, none⟩)) (w' := W.alloc (.cells cs ty)) ?_ ⟨(Below.refl _ _).alloc (Nat.le_refl _) _, fun k hk => by rw [hd k hk]; exact ⟨_, rfl, hB W hW, Blk.new W _ _⟩⟩
  simp [execOp, ho, e1, Instr.box, newVar, newRow, Result.andThen, Value.cells]
end

set_option maxHeartbeats 1000000 in
set_option maxRecDepth 100000 in
theorem over_tr (n : Int) (hn : I64 n) (l r : Tr) (u v : Value) (w : World) (hu : IsTr w l u) (hv : IsTr w r v) (ht : Tabs w) :
    Calls Tryd.prog 81 #[.int .i64 n, u, v] w fun e w' => ∃ z, e = .returned z ∧ IsTr w' (.node (nodeH n l.root r.root) l r) z ∧ Below w.heap.size w w' := by
  obtain ⟨hl32, gl, bl, xl, ll, rl, rfl, hbl⟩ := hu.blk
  obtain ⟨hr32, gr, br, xr, lr, rr, rfl, hbr⟩ := hv.blk
  obtain ⟨H, hH, hH32⟩ : ∃ H, H = nodeH n l.root r.root ∧ H.length = 32 := ⟨_, rfl, nodeH_length _ _ _⟩
  have HNd := Lib.hid (fun (W : World) (hW : Below w.heap.size w W) => node_any n l.root r.root W hn hl32 hr32 (ht.below (Nat.le_refl _) hW))
  rw [← hH] at HNd ⊢
  have HLl := Lib.hid (fun (W : World) (hW : Below w.heap.size w W) => load_root (hbl.keep hW) hl32)
  have HLr := Lib.hid (fun (W : World) (hW : Below w.heap.size w W) => load_root (hbr.keep hW) hr32)
  have HU := Lib.hid (fun (W : World) (hW : Below w.heap.size w W) => hu.below hW)
  have HV := Lib.hid (fun (W : World) (hW : Below w.heap.size w W) => hv.below hW)
  have HBd := Lib.hid (fun W => build_tr3 H hH32 (some ⟨gl, 0, none⟩) (some ⟨gr, 0, none⟩) W)
  have HH32 := Lib.hid hH32
  obtain ⟨hl0, ehl⟩ : ∃ x, x = l.root := ⟨_, rfl⟩
  obtain ⟨hr0, ehr⟩ : ∃ x, x = r.root := ⟨_, rfl⟩
  rw [← ehl] at HNd HLl
  rw [← ehr] at HNd HLr
  obtain ⟨ct, hct⟩ : ∃ ct, ct = trB H false (.slice none 0 0) (.pointer (some ⟨gl, 0, none⟩)) (.pointer (some ⟨gr, 0, none⟩)) := ⟨_, rfl⟩
  rw [← hct] at HBd
  have HCt := Lib.hid hct
  clear hu hv ht hbl hbr hl32 hr32 hH hH32 hn ehl ehr hct
  go_enter Tryd.func81, Tryd.ntmps81
  go_upto_region 1 with fail
  have hG : ∀ W W' : World, Below w.heap.size w W → Below W.heap.size W W' → Below w.heap.size w W' := fun W W' h h' => h.trans (h'.mono h.size)
  refine region_by [(7, .is (.int .i64 n)), (8, .is (.pointer (some ⟨gl, 0, none⟩))), (9, .is (.pointer (some ⟨gl, 0, none⟩))), (10, .is (.pointer (some ⟨gl, 0, none⟩))), (11, .is (.agg (bs hl0))), (12, .is (.pointer (some ⟨gr, 0, none⟩))), (13, .is (.pointer (some ⟨gr, 0, none⟩))), (14, .is (.pointer (some ⟨gr, 0, none⟩))), (15, .is (.agg (bs hr0))), (16, .is (.agg (bs H))), (17, .is (.pointer (some ⟨gl, 0, none⟩))), (18, .is (.pointer (some ⟨gr, 0, none⟩))), (19, .is (.agg ct)), (20, boxF w.heap.size 78 ct), (6, boxF w.heap.size 78 ct)] [6]
    (fun W => Below w.heap.size w W) (by kernel_rfl) (by kernel_rfl) (by kernel_rfl) (by kernel_rfl) (by kernel_rfl) (hG _ _ (Below.refl _ _) (Below.refl _ _).drew) ?_ ?_
  · refine ⟨?a0, ?a1, ?a2, ?a3, ?a4, ?a5, ?a6, ?a7, ?a8, ?a9, ?a10, ?a11, ?a12, ?a13, ?a14, trivial⟩
    case a0 => exact ask_copy (guard_none rfl) (.tmp 0) (.inl rfl) (by intro k hk; cases hk; rfl)
    case a1 => exact ask_copy (guard_none rfl) (.tmp 1) (.inl rfl) (by intro k hk; cases hk; rfl)
    case a2 => exact ask_nil (guard_none rfl) (.tmp 8) _ rfl rfl (by intro k hk; cases hk; rfl)
    case a3 => exact ask_field (guard_none rfl) _ (.tmp 9) 0 (.pointer (some ⟨gl, 0, none⟩)) (.pointer (some ⟨gl, 0, none⟩)) rfl rfl (by intro k hk; cases hk; rfl) (fun W => by kernel_rfl)
    case a4 => exact ask_load (guard_none rfl) _ (.tmp 10) (.pointer (some ⟨gl, 0, none⟩)) (.agg (bs hl0)) rfl rfl (by intro k hk; cases hk; rfl) (fun W hW => HLl.out W hW)
    case a5 => exact ask_copy (guard_none rfl) (.tmp 2) (.inl rfl) (by intro k hk; cases hk; rfl)
    case a6 => exact ask_nil (guard_none rfl) (.tmp 12) _ rfl rfl (by intro k hk; cases hk; rfl)
    case a7 => exact ask_field (guard_none rfl) _ (.tmp 13) 0 (.pointer (some ⟨gr, 0, none⟩)) (.pointer (some ⟨gr, 0, none⟩)) rfl rfl (by intro k hk; cases hk; rfl) (fun W => by kernel_rfl)
    case a8 => exact ask_load (guard_none rfl) _ (.tmp 14) (.pointer (some ⟨gr, 0, none⟩)) (.agg (bs hr0)) rfl rfl (by intro k hk; cases hk; rfl) (fun W hW => HLr.out W hW)
    case a9 => exact ask_call hG (guard_none rfl) _ _ _ #[.int .i64 n, .agg (bs hl0), .agg (bs hr0)] (.is (.agg (bs H))) rfl (by kernel_rfl) rfl rfl (by intro k hk; cases hk; rfl) (fun W hW => (HNd.out W hW).mono fun e w' h => ⟨_, h.1, rfl, h.2⟩)
    case a10 => exact ask_copy (guard_none rfl) (.tmp 1) (.inl rfl) (by intro k hk; cases hk; rfl)
    case a11 => exact ask_copy (guard_none rfl) (.tmp 2) (.inl rfl) (by intro k hk; cases hk; rfl)
    case a12 => exact ask_agg (guard_none rfl) 78 _ [(0, .agg (bs H)), (3, .pointer (some ⟨gl, 0, none⟩)), (4, .pointer (some ⟨gr, 0, none⟩))] (.agg ct) rfl rfl rfl (by intro k hk; cases hk; rfl) HBd.out
    case a13 => exact ask_box hG (guard_none rfl) 78 (.tmp 19) ct w.heap.size (fun W hW => hW.size) rfl rfl (by intro k hk; cases hk; rfl)
    case a14 => exact ask_copy (guard_none rfl) (.tmp 20) (.inr rfl) (by intro k hk; cases hk; rfl)
  intro a' W3 hW hd' hs' hf'
  obtain ⟨g, t6, _, hg⟩ : ∃ g, a'.tmps.getD 6 undef = .pointer (some ⟨g, 0, none⟩) ∧ w.heap.size ≤ g ∧ Blk W3 g 78 ct := hf' 6 rfl
  obtain ⟨us', hus, ha'⟩ := act_open 21 a' hs' hd'
  rw [← hus] at t6
  have el : ((List.range 21).map us').toArray = #[us' 0, us' 1, us' 2, us' 3, us' 4, us' 5, .pointer (some ⟨g, 0, none⟩), us' 7, us' 8, us' 9, us' 10, us' 11, us' 12, us' 13, us' 14, us' 15, us' 16, us' 17, us' 18, us' 19, us' 20] := by
    show #[us' 0, us' 1, us' 2, us' 3, us' 4, us' 5, us' 6, us' 7, us' 8, us' 9, us' 10, us' 11, us' 12, us' 13, us' 14, us' 15, us' 16, us' 17, us' 18, us' 19, us' 20] = _
    rw [t6]
  rw [el] at ha'
  subst ha'
  have HG := Lib.hid hg
  have HW := Lib.hid hW
  clear hus t6 el hf' hs' hd' hW hg hG
  go_wp2
  go_ret
  exact ⟨_, rfl, ⟨HH32.out, g, _, _, rfl, by rw [← HCt.out]; exact HG.out, HU.out _ HW.out, HV.out _ HW.out⟩, HW.out⟩
end Go.Proofs.YtdhfabjkpffhnaaDoor

/- What was hashed for a tree; the way down two trees, and the clash that comes up: the program's. -/
namespace Go.Proofs.YtdhfabjkpffhnaaDoor
set_option maxRecDepth 20000
open Go.RowKit ShaMath LeafMath PathMath GrowthMath ClashMath Reg

set_option maxHeartbeats 400000 in
theorem bytesEq_any (va vb : Value) (la lb : List UInt8) (w : World) (ha : Bys w va la) (hb : Bys w vb lb) :
    Calls Tryd.prog 64 #[va, vb] w fun e w' => e = .returned (.bool (la == lb)) ∧ w = w' := by
  have c1 := conv_bys ha
  have c2 := conv_bys hb
  obtain ⟨X, hX⟩ : ∃ X : ByteArray, X = ⟨la.toArray⟩ := ⟨_, rfl⟩
  obtain ⟨Y, hY⟩ : ∃ Y : ByteArray, Y = ⟨lb.toArray⟩ := ⟨_, rfl⟩
  rw [← hX] at c1
  rw [← hY] at c2
  have he : (la == lb) = (X.toList == Y.toList) := by rw [hX, hY, ByteArray.toList_mk, ByteArray.toList_mk]
  rw [he]
  clear ha hb hX hY he
  go_enter Tryd.func64, Tryd.ntmps64
  go_wp2
  go_ret
  exact ⟨rfl, rfl⟩

theorem row_form {w : World} {B : Nat} {u : Value} {l : List UInt8} (h : Row w B u l) (hl : l ≠ []) : ∃ ad c, u = .slice (some ad) l.length c := by
  obtain ⟨g, c, e, _⟩ := h.shape hl
  exact ⟨_, c, e⟩

/-- How hashed ends. -/
def SaidEnd (o : Option Bs) (w : World) (e : Ending) (w' : World) : Prop :=
  (match o with | none => e = .returned (.slice none 0 0) | some s => ∃ ad c, e = .returned (.slice (some ad) s.length c) ∧ Bys w' (.slice (some ad) s.length c) s) ∧ Below w.heap.size w w'

set_option maxRecDepth 100000 in
theorem said_nil (w : World) : Calls Tryd.prog 99 #[.pointer none] w fun e w' => SaidEnd none w e w' := by
  go_enter Tryd.func99, Tryd.ntmps99
  go_wp2
  go_ret
  exact ⟨rfl, Below.refl _ _⟩

set_option maxRecDepth 100000 in
theorem said_top (h : Hs) (v : Value) (w : World) (hv : IsTr w (.top h) v) : Calls Tryd.prog 99 #[v] w fun e w' => SaidEnd none w e w' := by
  obtain ⟨hh, g, rfl, hb⟩ := hv
  have c32 : w.cell? ⟨g, 32, none⟩ = some (.bool false) := by rw [hb.cell]; exact trB_at h _ _ _ _ hh 0
  have c34 : w.cell? ⟨g, 34, none⟩ = some (.pointer none) := by rw [hb.cell]; exact trB_at h _ _ _ _ hh 2
  clear hb
  go_enter Tryd.func99, Tryd.ntmps99
  go_wp2
  go_ret
  exact ⟨rfl, Below.refl _ _⟩

set_option maxRecDepth 100000 in
theorem said_text (h : Hs) (x : Bs) (v : Value) (w : World) (hv : IsTr w (.text h x) v) : Calls Tryd.prog 99 #[v] w fun e w' => SaidEnd (some (0 :: x)) w e w' := by
  obtain ⟨hh, g, a, c, rfl, hb, hx, hl⟩ := hv
  have HH := Lib.hid (hashedLeaf_any x _ w hx (by omega))
  obtain ⟨m, hm⟩ : ∃ m, m = x.length := ⟨_, rfl⟩
  rw [← hm] at HH hb
  have c32 : w.cell? ⟨g, 32, none⟩ = some (.bool true) := by rw [hb.cell]; exact trB_at h _ _ _ _ hh 0
  have c33 : w.cell? ⟨g, 33, none⟩ = some (.slice a m c) := by rw [hb.cell]; exact trB_at h _ _ _ _ hh 1
  clear hb hx hm hl
  go_enter Tryd.func99, Tryd.ntmps99
  go_wp2_with fail
  refine HH.out.mono ?_
  rintro e w1 ⟨u, rfl, hr, hb⟩
  obtain ⟨ad, c1, rfl⟩ := row_form hr (by simp)
  have HR := Lib.hid hr.bys
  have HB := Lib.hid hb
  obtain ⟨m1, hm1⟩ : ∃ m1, m1 = (0 :: x).length := ⟨_, rfl⟩
  rw [← hm1] at HR ⊢
  have HM := Lib.hid hm1
  clear hr hb HH hm1
  go_wp2
  go_ret
  refine ⟨⟨ad, c1, ?_, ?_⟩, HB.out⟩
  · rw [← HM.out]; rfl
  · rw [← HM.out]; exact HR.out

set_option maxHeartbeats 1000000 in
set_option maxRecDepth 100000 in
theorem said_node (h : Hs) (l r : Tr) (v : Value) (w : World) (hv : IsTr w (.node h l r) v) : Calls Tryd.prog 99 #[v] w fun e w' => SaidEnd (some (nodeT l.root r.root)) w e w' := by
  obtain ⟨hh, g, p, q, rfl, hb, hl, hr⟩ := hv
  obtain ⟨hl32, gl, bl, xl, ll, rl, e1, hbl⟩ := hl.blk
  obtain ⟨hr32, gr, br, xr, lr, rr, e2, hbr⟩ := hr.blk
  cases e1
  cases e2
  have c32 : w.cell? ⟨g, 32, none⟩ = some (.bool false) := by rw [hb.cell]; exact trB_at h _ _ _ _ hh 0
  have c34 : w.cell? ⟨g, 34, none⟩ = some (.pointer (some ⟨gl, 0, none⟩)) := by rw [hb.cell]; exact trB_at h _ _ _ _ hh 2
  have c35 : w.cell? ⟨g, 35, none⟩ = some (.pointer (some ⟨gr, 0, none⟩)) := by rw [hb.cell]; exact trB_at h _ _ _ _ hh 3
  have HL4 := Lib.hid (fun (W : World) (hW : Below w.heap.size w W) => load_ptr W ⟨g, 34, none⟩ _ (by rw [hW.cell (World.block_lt_of_cell? w _ c34)]; exact c34))
  have HL5 := Lib.hid (fun (W : World) (hW : Below w.heap.size w W) => load_ptr W ⟨g, 35, none⟩ _ (by rw [hW.cell (World.block_lt_of_cell? w _ c35)]; exact c35))
  have HLl := Lib.hid (fun (W : World) (hW : Below w.heap.size w W) => load_root (hbl.keep hW) hl32)
  have HLr := Lib.hid (fun (W : World) (hW : Below w.heap.size w W) => load_root (hbr.keep hW) hr32)
  have HN := Lib.hid (fun W => hashedNode_any l.root r.root W hl32 hr32)
  have ht0 : nodeT l.root r.root ≠ [] := by simp [nodeT]
  obtain ⟨t, ht⟩ : ∃ t, t = nodeT l.root r.root := ⟨_, rfl⟩
  rw [show (1 :: (l.root ++ r.root) : List UInt8) = nodeT l.root r.root from rfl, ← ht] at HN
  rw [← ht] at ht0 ⊢
  obtain ⟨hl0, ehl⟩ : ∃ x, x = l.root := ⟨_, rfl⟩
  obtain ⟨hr0, ehr⟩ : ∃ x, x = r.root := ⟨_, rfl⟩
  rw [← ehl] at HN HLl
  rw [← ehr] at HN HLr
  have HT0 := Lib.hid ht0
  clear hb hbl hbr hl hr hh hl32 hr32 ehl ehr ht ht0 c35
  go_enter Tryd.func99, Tryd.ntmps99
  go_upto_region 6 with fail
  have hG : ∀ W W' : World, Below w.heap.size w W → Below W.heap.size W W' → Below w.heap.size w W' := fun W W' h h' => h.trans (h'.mono h.size)
  refine region_by [(22, .is (.pointer (some ⟨g, 0, none⟩))), (23, .is (.pointer (some ⟨g, 0, none⟩))), (24, .is (.pointer (some ⟨g, 34, none⟩))), (25, .is (.pointer (some ⟨gl, 0, none⟩))), (26, .is (.pointer (some ⟨gl, 0, none⟩))), (27, .is (.pointer (some ⟨gl, 0, none⟩))), (28, .is (.agg (bs hl0))), (29, .is (.pointer (some ⟨g, 0, none⟩))), (30, .is (.pointer (some ⟨g, 0, none⟩))), (31, .is (.pointer (some ⟨g, 35, none⟩))), (32, .is (.pointer (some ⟨gr, 0, none⟩))), (33, .is (.pointer (some ⟨gr, 0, none⟩))), (34, .is (.pointer (some ⟨gr, 0, none⟩))), (35, .is (.agg (bs hr0))), (36, .row w.heap.size t), (2, .row w.heap.size t)] [2]
    (fun W => Below w.heap.size w W) (by kernel_rfl) (by kernel_rfl) (by kernel_rfl) (by kernel_rfl) (by kernel_rfl) (hG _ _ (Below.refl _ _) (Below.refl _ _).drew) ?_ ?_
  · refine ⟨?a0, ?a1, ?a2, ?a3, ?a4, ?a5, ?a6, ?a7, ?a8, ?a9, ?a10, ?a11, ?a12, ?a13, ?a14, ?a15, trivial⟩
    case a0 => exact ask_copy (guard_none rfl) (.tmp 0) (.inl rfl) (by intro k hk; cases hk; rfl)
    case a1 => exact ask_nil (guard_none rfl) (.tmp 22) _ rfl rfl (by intro k hk; cases hk; rfl)
    case a2 => exact ask_field (guard_none rfl) _ (.tmp 23) 3 (.pointer (some ⟨g, 0, none⟩)) (.pointer (some ⟨g, 34, none⟩)) rfl rfl (by intro k hk; cases hk; rfl) (fun W => by kernel_rfl)
    case a3 => exact ask_load (guard_none rfl) _ (.tmp 24) (.pointer (some ⟨g, 34, none⟩)) (.pointer (some ⟨gl, 0, none⟩)) rfl rfl (by intro k hk; cases hk; rfl) (fun W hW => HL4.out W hW)
    case a4 => exact ask_nil (guard_none rfl) (.tmp 25) _ rfl rfl (by intro k hk; cases hk; rfl)
    case a5 => exact ask_field (guard_none rfl) _ (.tmp 26) 0 (.pointer (some ⟨gl, 0, none⟩)) (.pointer (some ⟨gl, 0, none⟩)) rfl rfl (by intro k hk; cases hk; rfl) (fun W => by kernel_rfl)
    case a6 => exact ask_load (guard_none rfl) _ (.tmp 27) (.pointer (some ⟨gl, 0, none⟩)) (.agg (bs hl0)) rfl rfl (by intro k hk; cases hk; rfl) (fun W hW => HLl.out W hW)
    case a7 => exact ask_copy (guard_none rfl) (.tmp 0) (.inl rfl) (by intro k hk; cases hk; rfl)
    case a8 => exact ask_nil (guard_none rfl) (.tmp 29) _ rfl rfl (by intro k hk; cases hk; rfl)
    case a9 => exact ask_field (guard_none rfl) _ (.tmp 30) 4 (.pointer (some ⟨g, 0, none⟩)) (.pointer (some ⟨g, 35, none⟩)) rfl rfl (by intro k hk; cases hk; rfl) (fun W => by kernel_rfl)
    case a10 => exact ask_load (guard_none rfl) _ (.tmp 31) (.pointer (some ⟨g, 35, none⟩)) (.pointer (some ⟨gr, 0, none⟩)) rfl rfl (by intro k hk; cases hk; rfl) (fun W hW => HL5.out W hW)
    case a11 => exact ask_nil (guard_none rfl) (.tmp 32) _ rfl rfl (by intro k hk; cases hk; rfl)
    case a12 => exact ask_field (guard_none rfl) _ (.tmp 33) 0 (.pointer (some ⟨gr, 0, none⟩)) (.pointer (some ⟨gr, 0, none⟩)) rfl rfl (by intro k hk; cases hk; rfl) (fun W => by kernel_rfl)
    case a13 => exact ask_load (guard_none rfl) _ (.tmp 34) (.pointer (some ⟨gr, 0, none⟩)) (.agg (bs hr0)) rfl rfl (by intro k hk; cases hk; rfl) (fun W hW => HLr.out W hW)
    case a14 => exact ask_call hG (guard_none rfl) _ _ _ #[.agg (bs hl0), .agg (bs hr0)] (.row w.heap.size t) rfl (by kernel_rfl) rfl rfl (by intro k hk; cases hk; rfl) (fun W hW => (HN.out W).mono fun e w' h => by obtain ⟨u, h1, h2, h3⟩ := h; exact ⟨u, h1, h2.lower hW.size, h3⟩)
    case a15 => exact ask_copy (guard_none rfl) (.tmp 36) (.inr rfl) (by intro k hk; cases hk; rfl)
  intro a' W3 hW hd' hs' hf'
  have t2 : Row W3 w.heap.size (a'.tmps.getD 2 undef) t := hf' 2 rfl
  obtain ⟨us', hus, ha'⟩ := act_open 37 a' hs' hd'
  rw [← hus] at t2
  subst ha'
  have HT := Lib.hid t2
  have HW := Lib.hid hW
  clear t2 hf' hs' hd' hus hW hG c32 c34
  go_wp2
  go_ret
  obtain ⟨ad, c1, e⟩ := row_form HT.out HT0.out
  refine ⟨⟨ad, c1, ?_, ?_⟩, HW.out⟩
  · show Ending.returned (us' 2) = _
    rw [e]
  · rw [← e]
    exact HT.out.bys

theorem said_any (t : Tr) (v : Value) (w : World) (hv : IsTr w t v) : Calls Tryd.prog 99 #[v] w fun e w' => SaidEnd t.said w e w' := by
  cases t with
  | top h => exact said_top h v w hv
  | text h x => exact said_text h x v w hv
  | node h l r => exact said_node h l r v w hv

/-! ### The way down -/

/-- What comes up the way down. -/
def upC (x : Value) : List PanicEntry := [{ v := .iface 108 x, recovered := false }]

/-- How down ends. -/
def DownEnd (o : Option (Bs × Bs)) (w : World) (e : Ending) (w' : World) : Prop :=
  (match o with | none => e = .returned (.tuple #[]) | some p => ∃ x, e = .panicked (upC x) ∧ PairB w' x p) ∧ Below w.heap.size w w'

theorem DownEnd.from {o : Option (Bs × Bs)} {w w1 w' : World} {e : Ending} (h : DownEnd o w1 e w') (hb : Below w.heap.size w w1) : DownEnd o w e w' := ⟨h.1, hb.trans (h.2.mono hb.size)⟩

theorem nil_test (w : World) (a : Option Addr) (n c n' c' : Nat) : (binOp .eql 22 (.slice a n c) (.slice none n' c')).run Tryd.prog w = .ok (.bool a.isNone) w := Lib.run_eql_slice_nil w _ _ a n c n' c' Tryd.underlying22

set_option maxRecDepth 100000 in
/-- Where one of the two isn't known, nothing comes up. -/
theorem down_none (u v : Value) (o1 o2 : Option Bs) (w : World) (h1 : ∀ W, Below w.heap.size w W → Calls Tryd.prog 99 #[u] W fun e w' => SaidEnd o1 W e w') (h2 : ∀ W, Below w.heap.size w W → Calls Tryd.prog 99 #[v] W fun e w' => SaidEnd o2 W e w')
    (ho : o1 = none ∨ o2 = none) : Calls Tryd.prog 83 #[u, v] w fun e w' => DownEnd none w e w' := by
  have H1 := Lib.hid h1
  have H2 := Lib.hid h2
  have qT := nil_test
  clear h1 h2
  cases o1 with
  | none =>
    go_enter Tryd.func83, Tryd.ntmps83
    go_wp2_with fail
    refine (H1.out _ (Below.refl _ _)).mono ?_
    rintro e w1 ⟨rfl, hb1⟩
    have HB1 := Lib.hid hb1
    clear hb1
    go_wp2_with fail
    refine (H2.out _ HB1.out).mono ?_
    rintro e w2 ⟨hc, hb2⟩
    have HB2 := Lib.hid (HB1.out.trans (hb2.mono HB1.out.size))
    clear hb2
    obtain ⟨a, n, c, rfl⟩ : ∃ a n c, e = .returned (.slice a n c) := by
      cases o2 with
      | none => exact ⟨_, _, _, hc⟩
      | some s => obtain ⟨ad, c, e, _⟩ := hc; exact ⟨_, _, _, e⟩
    clear hc
    go_wp2
    go_end0
    exact ⟨rfl, HB2.out⟩
  | some s =>
    obtain rfl : o2 = none := by
      rcases ho with ho | ho
      · cases ho
      · exact ho
    go_enter Tryd.func83, Tryd.ntmps83
    go_wp2_with fail
    refine (H1.out _ (Below.refl _ _)).mono ?_
    rintro e w1 ⟨⟨ad, c, rfl, _⟩, hb1⟩
    have HB1 := Lib.hid hb1
    clear hb1
    go_wp2_with fail
    refine (H2.out _ HB1.out).mono ?_
    rintro e w2 ⟨rfl, hb2⟩
    have HB2 := Lib.hid (HB1.out.trans (hb2.mono HB1.out.size))
    clear hb2
    go_wp2
    go_end0
    exact ⟨rfl, HB2.out⟩

set_option maxHeartbeats 1000000 in
set_option maxRecDepth 100000 in
/-- Where the two are unlike, they come up. -/
theorem down_ne (u v : Value) (s t : Bs) (w : World) (h1 : ∀ W, Below w.heap.size w W → Calls Tryd.prog 99 #[u] W fun e w' => SaidEnd (some s) W e w') (h2 : ∀ W, Below w.heap.size w W → Calls Tryd.prog 99 #[v] W fun e w' => SaidEnd (some t) W e w')
    (hst : s ≠ t) : Calls Tryd.prog 83 #[u, v] w fun e w' => DownEnd (some (s, t)) w e w' := by
  have H1 := Lib.hid h1
  have H2 := Lib.hid h2
  have qT := nil_test
  have HNe := Lib.hid (show (s == t) = false by simpa using hst)
  clear h1 h2 hst
  go_enter Tryd.func83, Tryd.ntmps83
  go_wp2_with fail
  refine (H1.out _ (Below.refl _ _)).mono ?_
  rintro e w1 ⟨⟨ad, c, rfl, hs⟩, hb1⟩
  have HB1 := Lib.hid hb1
  have HS := Lib.hid hs
  clear hb1 hs
  go_wp2_with fail
  refine (H2.out _ HB1.out).mono ?_
  rintro e w2 ⟨⟨ad', c', rfl, ht⟩, hb2⟩
  have HB2 := Lib.hid (HB1.out.trans (hb2.mono HB1.out.size))
  have HS2 := Lib.hid (HS.out.below (Nat.le_refl _) hb2)
  have HT := Lib.hid ht
  clear hb2 ht HS
  obtain ⟨n, hn⟩ : ∃ n, n = s.length := ⟨_, rfl⟩
  obtain ⟨n', hn'⟩ : ∃ n', n' = t.length := ⟨_, rfl⟩
  rw [← hn] at HS2 ⊢
  rw [← hn'] at HT ⊢
  have HEq := Lib.hid (bytesEq_any _ _ s t w2 HS2.out HT.out)
  rw [HNe.out] at HEq
  have HN := Lib.hid hn
  have HN' := Lib.hid hn'
  clear hn hn'
  go_wp2_with fail
  refine HEq.out.mono ?_
  rintro e w3 ⟨rfl, rfl⟩
  go_wp2
  refine ⟨rfl, ⟨_, rfl, ?_⟩, HB2.out⟩
  refine ⟨some ad, c, some ad', c', ?_, ?_, ?_⟩
  · rw [← HN.out, ← HN'.out]
  · rw [← HN.out]; exact HS2.out
  · rw [← HN'.out]; exact HT.out

def orElse (o1 o2 : Option (Bs × Bs)) : Option (Bs × Bs) := match o1 with | some p => some p | none => o2

set_option maxHeartbeats 2000000 in
set_option maxRecDepth 100000 in
/-- Where both are one, it goes on below. -/
theorem down_same (g1 g2 : Nat) (k1 k2 : Hs) (b1 b2 : Bool) (x1 x2 l1 l2 r1 r2 : Value) (s : Bs) (o1 o2 : Option (Bs × Bs)) (w : World)
    (hb1 : Blk w g1 78 (trB k1 b1 x1 l1 r1)) (hb2 : Blk w g2 78 (trB k2 b2 x2 l2 r2)) (hk1 : k1.length = 32) (hk2 : k2.length = 32)
    (h1 : ∀ W, Below w.heap.size w W → Calls Tryd.prog 99 #[.pointer (some ⟨g1, 0, none⟩)] W fun e w' => SaidEnd (some s) W e w')
    (h2 : ∀ W, Below w.heap.size w W → Calls Tryd.prog 99 #[.pointer (some ⟨g2, 0, none⟩)] W fun e w' => SaidEnd (some s) W e w')
    (hl : ∀ W, Below w.heap.size w W → Calls Tryd.prog 83 #[l1, l2] W fun e w' => DownEnd o1 W e w')
    (hr : ∀ W, Below w.heap.size w W → Calls Tryd.prog 83 #[r1, r2] W fun e w' => DownEnd o2 W e w') :
    Calls Tryd.prog 83 #[.pointer (some ⟨g1, 0, none⟩), .pointer (some ⟨g2, 0, none⟩)] w fun e w' => DownEnd (orElse o1 o2) w e w' := by
  have H1 := Lib.hid h1
  have H2 := Lib.hid h2
  have HL := Lib.hid hl
  have HR := Lib.hid hr
  have qT := nil_test
  have C := Lib.hid (show ∀ W, Below w.heap.size w W → W.cell? ⟨g1, 34, none⟩ = some l1 ∧ W.cell? ⟨g1, 35, none⟩ = some r1 ∧ W.cell? ⟨g2, 34, none⟩ = some l2 ∧ W.cell? ⟨g2, 35, none⟩ = some r2 from fun W hW =>
    ⟨by rw [(hb1.keep hW).cell]; exact trB_at k1 _ _ _ _ hk1 2, by rw [(hb1.keep hW).cell]; exact trB_at k1 _ _ _ _ hk1 3, by rw [(hb2.keep hW).cell]; exact trB_at k2 _ _ _ _ hk2 2, by rw [(hb2.keep hW).cell]; exact trB_at k2 _ _ _ _ hk2 3⟩)
  clear h1 h2 hl hr hb1 hb2 hk1 hk2
  go_enter Tryd.func83, Tryd.ntmps83
  go_wp2_with fail
  refine (H1.out _ (Below.refl _ _)).mono ?_
  rintro e w1 ⟨⟨ad, c, rfl, hs⟩, hb1⟩
  have HB1 := Lib.hid hb1
  have HS := Lib.hid hs
  clear hb1 hs
  go_wp2_with fail
  refine (H2.out _ HB1.out).mono ?_
  rintro e w2 ⟨⟨ad', c', rfl, ht⟩, hb2⟩
  have HB2 := Lib.hid (HB1.out.trans (hb2.mono HB1.out.size))
  have HS2 := Lib.hid (HS.out.below (Nat.le_refl _) hb2)
  have HT := Lib.hid ht
  clear hb2 ht HS
  obtain ⟨n, hn⟩ : ∃ n, n = s.length := ⟨_, rfl⟩
  rw [← hn] at HS2 HT ⊢
  have HEq := Lib.hid (bytesEq_any _ _ s s w2 HS2.out HT.out)
  rw [beq_self_eq_true] at HEq
  clear hn HS2 HT HB1 H1 H2
  go_wp2_with fail
  refine HEq.out.mono ?_
  rintro e w3 ⟨rfl, rfl⟩
  clear HEq
  go_upto_region 4 with fail
  refine region_tail 8 (by kernel_rfl) (by kernel_rfl) (fun W => Below w.heap.size w W) (HB2.out.trans ((Below.refl _ _).drew)) ?_
  intro W4 hW4
  have HB4 := Lib.hid hW4
  obtain ⟨q1, q2, q3, q4⟩ := C.out W4 hW4
  clear hW4 HB2
  simp only [List.take_succ_cons, List.take_zero, List.drop_succ_cons, List.drop_zero]
  repeat (first | go_big_quiet_skip | (go_big_quiet_want; go_big_quiet_op; go_big_quiet_on))
  refine wpQuiet_nil ?_
  go_wp2_with fail
  refine (HL.out W4 HB4.out).mono ?_
  rintro e w5 ⟨hc, hb5⟩
  have HB5 := Lib.hid (HB4.out.trans (hb5.mono HB4.out.size))
  clear hb5 HL q1 q2 q3 q4 HB4
  cases o1 with
  | some p =>
    obtain ⟨x, rfl, hp⟩ := hc
    exact ⟨rfl, ⟨x, rfl, hp⟩, HB5.out⟩
  | none =>
    obtain rfl := hc
    go_upto_region 5 with fail
    refine region_tail 8 (by kernel_rfl) (by kernel_rfl) (fun W => Below w.heap.size w W) (HB5.out.trans ((Below.refl _ _).drew)) ?_
    intro W6 hW6
    have HB6 := Lib.hid hW6
    obtain ⟨q1, q2, q3, q4⟩ := C.out W6 hW6
    clear hW6 HB5
    simp only [List.take_succ_cons, List.take_zero, List.drop_succ_cons, List.drop_zero]
    repeat (first | go_big_quiet_skip | (go_big_quiet_want; go_big_quiet_op; go_big_quiet_on))
    refine wpQuiet_nil ?_
    go_wp2_with fail
    refine (HR.out W6 HB6.out).mono ?_
    rintro e w7 ⟨hc, hb7⟩
    have HB7 := Lib.hid (HB6.out.trans (hb7.mono HB6.out.size))
    clear hb7 HR q1 q2 q3 q4 HB6
    cases o2 with
    | some p =>
      obtain ⟨x, rfl, hp⟩ := hc
      exact ⟨rfl, ⟨x, rfl, hp⟩, HB7.out⟩
    | none =>
      obtain rfl := hc
      go_wp2
      go_end0
      exact ⟨rfl, HB7.out⟩

theorem down_nil (w : World) : Calls Tryd.prog 83 #[.pointer none, .pointer none] w fun e w' => DownEnd none w e w' :=
  down_none _ _ none none w (fun W _ => said_nil W) (fun W _ => said_nil W) (.inl rfl)

/-- The way down two trees. -/
theorem down_any : ∀ (a b : Tr) (u v : Value) (w : World), IsTr w a u → IsTr w b v → Calls Tryd.prog 83 #[u, v] w fun e w' => DownEnd (trDown a b) w e w'
  | .top h, b, u, v, w, hu, hv => by
    rw [trDown]
    exact down_none u v none b.said w (fun W hW => said_top h u W (hu.below hW)) (fun W hW => said_any b v W (hv.below hW)) (.inl rfl)
  | .text h x, .top k, u, v, w, hu, hv => by
    rw [trDown_top]
    exact down_none u v _ none w (fun W hW => said_text h x u W (hu.below hW)) (fun W hW => said_top k v W (hv.below hW)) (.inr rfl)
  | .node h l r, .top k, u, v, w, hu, hv => by
    rw [trDown_top]
    exact down_none u v _ none w (fun W hW => said_node h l r u W (hu.below hW)) (fun W hW => said_top k v W (hv.below hW)) (.inr rfl)
  | .text h x, .node k l r, u, v, w, hu, hv => by
    rw [trDown]
    exact down_ne u v _ _ w (fun W hW => said_text h x u W (hu.below hW)) (fun W hW => said_node k l r v W (hv.below hW)) (by simp [nodeT])
  | .node h l r, .text k y, u, v, w, hu, hv => by
    rw [trDown]
    exact down_ne u v _ _ w (fun W hW => said_node h l r u W (hu.below hW)) (fun W hW => said_text k y v W (hv.below hW)) (by simp [nodeT])
  | .text h x, .text k y, u, v, w, hu, hv => by
    rw [trDown]
    by_cases he : x = y
    · subst he
      rw [if_neg (by simp)]
      have s1 := fun W (hW : Below w.heap.size w W) => said_text h x u W (hu.below hW)
      have s2 := fun W (hW : Below w.heap.size w W) => said_text k x v W (hv.below hW)
      obtain ⟨h1, g1, a1, c1, rfl, b1, _, _⟩ := hu
      obtain ⟨h2, g2, a2, c2, rfl, b2, _, _⟩ := hv
      exact down_same g1 g2 h k true true _ _ _ _ _ _ (0 :: x) none none w b1 b2 h1 h2 s1 s2 (fun W _ => down_nil W) (fun W _ => down_nil W)
    · rw [if_pos he]
      exact down_ne u v _ _ w (fun W hW => said_text h x u W (hu.below hW)) (fun W hW => said_text k y v W (hv.below hW)) (by simpa using he)
  | .node h l r, .node k l' r', u, v, w, hu, hv => by
    rw [trDown]
    by_cases he : nodeT l.root r.root = nodeT l'.root r'.root
    · rw [if_neg (by simpa using he)]
      have s1 := fun W (hW : Below w.heap.size w W) => said_node h l r u W (hu.below hW)
      have s2 := fun W (hW : Below w.heap.size w W) => said_node k l' r' v W (hv.below hW)
      rw [he] at s1
      obtain ⟨h1, g1, p1, q1, rfl, b1, hl1, hr1⟩ := hu
      obtain ⟨h2, g2, p2, q2, rfl, b2, hl2, hr2⟩ := hv
      exact down_same g1 g2 h k false false _ _ _ _ _ _ _ (trDown l l') (trDown r r') w b1 b2 h1 h2 s1 s2
        (fun W hW => down_any l l' _ _ W (hl1.below hW) (hl2.below hW)) (fun W hW => down_any r r' _ _ W (hr1.below hW) (hr2.below hW))
    · rw [if_pos he]
      exact down_ne u v _ _ w (fun W hW => said_node h l r u W (hu.below hW)) (fun W hW => said_node k l' r' v W (hv.below hW)) he
end Go.Proofs.YtdhfabjkpffhnaaDoor

/- The clash that comes up is caught: the program's. -/
namespace Go.Proofs.YtdhfabjkpffhnaaDoor
set_option maxRecDepth 20000
open Go.RowKit ShaMath LeafMath PathMath GrowthMath ClashMath Reg

theorem frame_met (p q x : Value) : #[p, q] ++ ((Array.replicate 16 undef).setIfInBounds 3 x).setIfInBounds 0 x = #[p, q, x, undef, undef, x, undef, undef, undef, undef, undef, undef, undef, undef, undef, undef, undef, undef] := by
  apply Array.ext'
  simp only [Array.toList_append, Array.toList_setIfInBounds, Array.toList_replicate]
  rfl

set_option maxHeartbeats 400000 in
/-- The deferred closure, nothing to recover. -/
theorem met_idle (p q : Value) (w : World) :
    CallsD Tryd.prog 82 #[p, q] .returning w fun e u' w' => e = .returned (.tuple #[]) ∧ u' = .returning ∧ w' = w := by
  refine callsD_of_wpS Tryd.func82 rfl fun c₀ cs hu => ?_
  apply wpS_seq
  apply wpS_region
  simp [wpOpsS, go_sem, recoverD, hu, Tryd.ntmps82, Exit.thenS]
  rw [frame_met]
  refine wpS_of_wp ?_
  go_wp2
  cases c₀
  simp_all [bodyPostS, results, Tryd.results82]

theorem is_found (v : Value) (w : World) : (Instr.typeAssert (.iface 108 v) 20 108 true).run Tryd.prog w = .ok (.tuple #[v, .bool true]) w := by kernel_rfl

/-- Two blocks that may be written. -/
def Two17 (g2 g3 : Nat) (b : Nat) : Prop := b = g2 ∨ b = g3

theorem met_close {g2 g3 : Nat} {x v0 v1 : Value} {w : World} (h2 : Blk w g2 51 #[v0, v1]) (h3 : Blk w g3 37 #[x]) (hne : ¬ g2 = g3) {y0 y1 : Value} (c : Value) (o : Obj) :
    Blk ((((w.setCell ⟨g2, 0, none⟩ y0).setCell ⟨g2, 1, none⟩ y1).setCell ⟨g3, 0, none⟩ c).alloc o) g2 51 #[y0, y1] ∧ Blk ((((w.setCell ⟨g2, 0, none⟩ y0).setCell ⟨g2, 1, none⟩ y1).setCell ⟨g3, 0, none⟩ c).alloc o) g3 37 #[c] ∧ OnlyS (Two17 g2 g3) w ((((w.setCell ⟨g2, 0, none⟩ y0).setCell ⟨g2, 1, none⟩ y1).setCell ⟨g3, 0, none⟩ c).alloc o) := by
  have a0 := h2.set 0 y0
  have a1 := a0.set 1 y1
  have b0 := h3.other ⟨g2, 0, none⟩ y0 (fun e => hne e.symm)
  have b1 := b0.other ⟨g2, 1, none⟩ y1 (fun e => hne e.symm)
  have o0 := (OnlyS.refl (Two17 g2 g3) w).setCell (p := ⟨g2, 0, none⟩) (fun _ => .inl rfl) y0
  have o1 := o0.setCell (p := ⟨g2, 1, none⟩) (fun _ => .inl rfl) y1
  have o2 := o1.setCell (p := ⟨g3, 0, none⟩) (fun _ => .inr rfl) c
  exact ⟨(a1.other ⟨g3, 0, none⟩ c hne).alloc o, (b1.set 0 c).alloc o, o2.alloc o⟩

set_option maxHeartbeats 1000000 in
/-- The deferred closure behind a clash that came up. -/
theorem met_caught (g2 g3 : Nat) (a : Option Addr) (n c : Nat) (a' : Option Addr) (n' c' : Nat) (x v0 v1 : Value) (w : World) (h2 : Blk w g2 51 #[v0, v1]) (h3 : Blk w g3 37 #[x]) (hne : ¬ g2 = g3) :
    CallsD Tryd.prog 82 #[.pointer (some ⟨g2, 0, none⟩), .pointer (some ⟨g3, 0, none⟩)] (.panicking (upC (.agg (prC a n c a' n' c')))) w fun e u' w' =>
      e = .returned (.tuple #[]) ∧ u' = .panicking [{ v := .iface 108 (.agg (prC a n c a' n' c')), recovered := true }] ∧ Blk w' g2 51 (prC a n c a' n' c') ∧ Blk w' g3 37 #[.int .i64 0] ∧ OnlyS (Two17 g2 g3) w w' := by
  refine callsD_of_wpS Tryd.func82 rfl fun c₀ cs0 hu => ?_
  apply wpS_seq
  apply wpS_region
  simp [wpOpsS, go_sem, recoverD, hu, upC, Tryd.ntmps82, Exit.thenS]
  rw [frame_met]
  refine wpS_of_wp ?_
  have hta := is_found (.agg #[.slice a n c, .slice a' n' c'])
  have H2 := Lib.hid h2
  have H3 := Lib.hid h3
  have l2 := h2.lt
  have l3 := h3.lt
  have m2 : ¬ w.heap.size = g2 := by omega
  have m3 : ¬ w.heap.size = g3 := by omega
  have m4 : ¬ g3 = g2 := fun e => hne e.symm
  have c0 : w.cell? ⟨g2, 0, none⟩ = some v0 := by rw [h2.cell]; rfl
  have c1 : w.cell? ⟨g2, 1, none⟩ = some v1 := by rw [h2.cell]; rfl
  have e0 : w.cell? ⟨g3, 0, none⟩ = some x := by rw [h3.cell]; rfl
  have f0 := h2.frozen 0
  have f1 := h2.frozen 1
  have f6 := h3.frozen 0
  clear h2 h3
  go_wp2
  simp [bodyPostS, results, Tryd.results82]
  exact met_close H2.out H3.out hne _ _

theorem Bys.farS {S : Nat → Prop} {W W' : World} {v : Value} {l : Bs} (h : Bys W v l) (ho : OnlyS S W W') (hS : ∀ k, S k → ∃ t cs, Blk W k t cs ∧ ∀ (j : Nat) (u : Value), cs[j]? = some u → ∀ b, u ≠ bv b) : Bys W' v l := by
  rcases h with h | ⟨ad, cap, hv, hc⟩
  · exact .inl h
  · refine .inr ⟨ad, cap, hv, fun i hi => ?_⟩
    have h1 := hc i hi
    have hlt := World.block_lt_of_cell? W _ h1
    by_cases e : S (ad.add i).block
    · exfalso
      obtain ⟨t, cs, hb, hz⟩ := hS _ e
      unfold World.cell? at h1
      rw [show W.heap[(ad.add i).block]? = _ from hb] at h1
      simp only at h1
      split at h1
      · cases h1
      · exact hz _ _ h1 _ rfl
    · rw [World.cell?_of_block (w := W) (ho.block _ hlt e)]
      exact h1

theorem ret_met {fn : Func} {p u : Tmp} (h : fn.results = #[.cell p 51, .cell u 37]) (tmps : Array Value) (W : World) (g2 g3 : Nat) (a : Option Addr) (n c : Nat) (a' : Option Addr) (n' c' : Nat) (x : Value) (hp : tmps.getD p undef = .pointer (some ⟨g2, 0, none⟩)) (hu : tmps.getD u undef = .pointer (some ⟨g3, 0, none⟩))
    (h2 : Blk W g2 51 (prC a n c a' n' c')) (h3 : Blk W g3 37 #[x]) : (results fn tmps).run Tryd.prog W = .ok (.tuple #[.agg (prC a n c a' n' c'), x]) W := by
  have hl := run_loadVar_row (P := Tryd.prog) W g2 51 51 (prC a n c a' n' c') (0, 0) _ h2 Tryd.underlying51 rfl (size_pair _ _ _ _ _ _)
  have hagg : (isAgg 37).run Tryd.prog W = .ok false W := by kernel_rfl
  have hc : W.cell? ⟨g3, 0, none⟩ = some x := by rw [h3.cell]; rfl
  have hl2 : (loadVar 37 ⟨g3, 0, none⟩).run Tryd.prog W = .ok x W := by simp [loadVar, Sem.run_bind, hagg, hc]
  have hp' : tmps[p]?.getD undef = .pointer (some ⟨g2, 0, none⟩) := by simpa using hp
  have hu' : tmps[u]?.getD undef = .pointer (some ⟨g3, 0, none⟩) := by simpa using hu
  simp [results, h, hp', hu', asAddr, hl, hl2, Result.andThen]

/-- How met ends. -/
def MetEnd (o : Option (Bs × Bs)) (w : World) (e : Ending) (w' : World) : Prop :=
  ∃ u, e = .returned (.tuple #[u, .int .i64 (if o.isSome then 0 else 8)]) ∧ PairB w' u (o.getD ([], [])) ∧ Below w.heap.size w w'

theorem errno_far (z : Int) (j : Nat) (u : Value) (h : (#[Value.int .i64 z] : Array Value)[j]? = some u) (b : UInt8) : u ≠ bv b := by
  match j, h with
  | 0, h => simp at h; subst h; simp [bv]

set_option maxHeartbeats 1000000 in
theorem met_any (a b : Tr) (u v : Value) (w : World) (hu : IsTr w a u) (hv : IsTr w b v) : Calls Tryd.prog 60 #[u, v] w fun e w' => MetEnd (trDown a b) w e w' := by
  have hmf : ∀ (fn : Fn) (first cap : Array Value) (w : World), (Instr.makeFunc fn first cap).run Tryd.prog w = .ok (.func fn first cap) w := fun _ _ _ _ => rfl
  obtain ⟨W1, hW1⟩ : ∃ W1 : World, W1 = (w.alloc (.cells (prC none 0 0 none 0 0) 51)).alloc (.cells #[.int .i64 0] 37) := ⟨_, rfl⟩
  have b1 : Below w.heap.size w W1 := by rw [hW1]; exact ((Below.refl _ _).alloc (Nat.le_refl _) _).alloc (by simp) _
  have hs1 : W1.heap.size = w.heap.size + 2 := by rw [hW1]; simp
  have E2 : Blk W1 w.heap.size 51 (prC none 0 0 none 0 0) := by rw [hW1]; exact (Blk.new w _ _).alloc _
  have E3 : Blk W1 (w.heap.size + 1) 37 #[.int .i64 0] := by rw [hW1]; exact Blk.newAt _ _ _ _ _ (by simp) rfl
  have HD := Lib.hid (down_any a b u v W1 (hu.below b1) (hv.below b1))
  obtain ⟨o, ho⟩ : ∃ o, o = trDown a b := ⟨_, rfl⟩
  rw [← ho] at HD ⊢
  have HB1 := Lib.hid b1
  have HS1 := Lib.hid hs1
  have HE2 := Lib.hid E2
  have HE3 := Lib.hid E3
  have HW1 := Lib.hid hW1
  clear hu hv b1 hs1 E2 E3 hW1 ho
  go_enter_defers Tryd.func60, Tryd.ntmps60
  go_wp2_with fail
  rw [← HW1.out]
  refine HD.out.mono ?_
  rintro e w2 ⟨hc, hb⟩
  have hsz2 : w.heap.size + 2 ≤ w2.heap.size := by have := hb.size; rw [HS1.out] at this; exact this
  have HB2 := Lib.hid (HB1.out.trans (hb.mono (by rw [HS1.out]; omega)))
  have HF2 := Lib.hid (HE2.out.keep hb)
  have HF3 := Lib.hid (HE3.out.keep hb)
  clear hb HD
  cases o with
  | some p =>
    obtain ⟨x, rfl, a0, c0, a0', c0', rfl, hp1, hp2⟩ := hc
    have HP1 := Lib.hid hp1
    have HP2 := Lib.hid hp2
    clear hp1 hp2
    refine leaves_cons (f := 82) (args := #[.pointer (some ⟨w.heap.size, 0, none⟩), .pointer (some ⟨w.heap.size + 1, 0, none⟩)]) (by simp) (by simp [go_sem]) ?_
    refine (met_caught w.heap.size (w.heap.size + 1) _ _ _ _ _ _ _ _ _ w2 HF2.out HF3.out (by omega)).mono ?_
    rintro e u' w4 ⟨rfl, rfl, hb2, hb3, ho⟩
    have hfar : ∀ k, Two17 w.heap.size (w.heap.size + 1) k → ∃ t cs, Blk w2 k t cs ∧ ∀ (j : Nat) (u : Value), cs[j]? = some u → ∀ b, u ≠ bv b := fun k hk => by
      rcases hk with rfl | rfl
      · exact ⟨_, _, HF2.out, prC_far _ _ _ _ _ _⟩
      · exact ⟨_, _, HF3.out, errno_far _⟩
    exact ⟨_, ret_met rfl _ _ w.heap.size (w.heap.size + 1) _ _ _ _ _ _ _ rfl rfl hb2 hb3, _, rfl, ⟨_, _, _, _, rfl, HP1.out.farS ho hfar, HP2.out.farS ho hfar⟩, HB2.out.trans (ho.below (fun k hk hs => by rcases hs with rfl | rfl <;> omega) (by omega))⟩
  | none =>
    obtain rfl := hc
    have c0 : w2.cell? ⟨w.heap.size, 0, none⟩ = some (.slice none 0 0) := by rw [HF2.out.cell]; rfl
    have c1 : w2.cell? ⟨w.heap.size, 1, none⟩ = some (.slice none 0 0) := by rw [HF2.out.cell]; rfl
    have c2 : w2.cell? ⟨w.heap.size + 1, 0, none⟩ = some (.int .i64 0) := by rw [HF3.out.cell]; rfl
    have f0 := HF2.out.frozen 0
    have f1 := HF2.out.frozen 1
    have f2 := HF3.out.frozen 0
    go_wp2
    have k2 : Blk (((w2.setCell ⟨w.heap.size, 0, none⟩ (.slice none 0 0)).setCell ⟨w.heap.size, 1, none⟩ (.slice none 0 0)).setCell ⟨w.heap.size + 1, 0, none⟩ (.int .i64 8)) w.heap.size 51 (prC none 0 0 none 0 0) := ((HF2.out.set 0 _).set 1 _).other ⟨w.heap.size + 1, 0, none⟩ _ (by show ¬ w.heap.size = w.heap.size + 1; omega)
    have k3 : Blk (((w2.setCell ⟨w.heap.size, 0, none⟩ (.slice none 0 0)).setCell ⟨w.heap.size, 1, none⟩ (.slice none 0 0)).setCell ⟨w.heap.size + 1, 0, none⟩ (.int .i64 8)) (w.heap.size + 1) 37 #[.int .i64 8] := ((HF3.out.other ⟨w.heap.size, 0, none⟩ _ (by show ¬ w.heap.size + 1 = w.heap.size; omega)).other ⟨w.heap.size, 1, none⟩ _ (by show ¬ w.heap.size + 1 = w.heap.size; omega)).set 0 _
    have hbb : Below w.heap.size w (((w2.setCell ⟨w.heap.size, 0, none⟩ (.slice none 0 0)).setCell ⟨w.heap.size, 1, none⟩ (.slice none 0 0)).setCell ⟨w.heap.size + 1, 0, none⟩ (.int .i64 8)) := by
      have h1 : OnlyS (fun k => w.heap.size ≤ k) w2 (((w2.setCell ⟨w.heap.size, 0, none⟩ (.slice none 0 0)).setCell ⟨w.heap.size, 1, none⟩ (.slice none 0 0)).setCell ⟨w.heap.size + 1, 0, none⟩ (.int .i64 8)) :=
        (((OnlyS.refl _ w2).setCell (p := ⟨w.heap.size, 0, none⟩) (fun _ => Nat.le_refl _) _).setCell (p := ⟨w.heap.size, 1, none⟩) (fun _ => Nat.le_refl _) _).setCell (p := ⟨w.heap.size + 1, 0, none⟩) (fun _ => by show w.heap.size ≤ w.heap.size + 1; omega) _
      exact HB2.out.trans (h1.below (fun k hk hs => by omega) (by omega))
    refine leaves_cons (f := 82) (args := #[.pointer (some ⟨w.heap.size, 0, none⟩), .pointer (some ⟨w.heap.size + 1, 0, none⟩)]) (by simp) (by simp [go_sem]) ?_
    refine (met_idle _ _ _).mono ?_
    rintro e u' w8 ⟨rfl, rfl, rfl⟩
    exact ⟨_, ret_met rfl _ _ w.heap.size (w.heap.size + 1) _ _ _ _ _ _ _ rfl rfl k2 k3, _, rfl, PairB.none _, hbb⟩
end Go.Proofs.YtdhfabjkpffhnaaDoor

/- The tree of a list, and the tree that a proof shows: the program's. -/
namespace Go.Proofs.YtdhfabjkpffhnaaDoor
set_option maxRecDepth 20000
open Go.RowKit ShaMath LeafMath PathMath GrowthMath ClashMath Reg

theorem slice_txs_fromU (b : Option Addr) (n c lo : Nat) (h2 : lo ≤ n) (W : World) : (Instr.sliceAt 48 (.slice b n c) (some (.int .u64 (lo : Int))) none none).run Tryd.prog W = .ok (sliced b lo n c 1) W := by
  have ht : Tryd.prog.underlying 48 = some (.slice (Tryd.prog.elem 48)) := by rw [elem_txs]; exact Tryd.underlying48
  rw [run_sliceAt_slice _ _ _ _ _ _ ht, run_slice_l _ _ _ _ _ ht .u64 (lo : Int) (by omega) (by omega), elem_txs, size_txt]
  simp [Result.andThen]

/-- A tree, as a fact. -/
def trF (t : Tr) : Fact := .sat (fun v W => IsTr W t v) fun _ _ _ h hb => h.below hb

theorem Txs.takeC {w : World} {a : Option Addr} {n c : Nat} {T : List Bs} (h : Txs w (.slice a n c) T) (k : Nat) (hk : k ≤ n) : Txs w (.slice a k c) (T.take k) := by
  obtain ⟨a', c', e, h2, h3⟩ := h
  cases e
  refine ⟨a, c, by rw [List.length_take, Nat.min_eq_left hk], by rw [List.length_take]; omega, fun i t hi => ?_⟩
  rw [List.getElem?_take] at hi
  split at hi
  · exact h3 i t hi
  · cases hi

set_option maxHeartbeats 2000000 in
set_option maxRecDepth 100000 in
theorem ofList_any (n : Int) (hn : I64 n) : ∀ (N : Nat) (T : List Bs) (v : Value) (w : World), T.length = N → Txs w v T → Shorts T → Tabs w →
    Calls Tryd.prog 59 #[.int .i64 n, v] w fun e w' => ∃ u, e = .returned u ∧ IsTr w' (trL n T) u ∧ Below w.heap.size w w' := by
  intro N
  induction N using Nat.strongRecOn with
  | ind N ih =>
    intro T v w hN hv hs hk
    obtain ⟨a, c, rfl, hlc⟩ := hv.form
    rw [hN] at hv hlc ⊢
    have hN80 : N ≤ 80 := by rw [← hN]; exact hs.few
    by_cases h0 : N = 0
    · subst h0
      obtain rfl := List.eq_nil_of_length_eq_zero hN
      rw [trL_nil]
      have HE := Lib.hid (empty_any n w hn hk)
      have HR := Lib.hid (fun W => ofRoot_any (emptyH n) (emptyH_length n) W)
      obtain ⟨ce, hce⟩ : ∃ x, x = bs (emptyH n) := ⟨_, rfl⟩
      rw [← hce] at HE HR
      clear hv hk hs ih hN hn hce
      go_enter Tryd.func59, Tryd.ntmps59
      go_wp2_with fail
      refine HE.out.mono ?_
      rintro e w1 ⟨rfl, hb1⟩
      have HB1 := Lib.hid hb1
      clear hb1
      go_wp2_with fail
      refine (HR.out _).mono ?_
      rintro e w2 ⟨u, rfl, ht, hb2⟩
      have HB2 := Lib.hid (HB1.out.trans (hb2.mono HB1.out.size))
      have HT := Lib.hid ht
      clear hb2 ht
      go_wp2
      go_ret
      exact ⟨_, rfl, HT.out, HB2.out⟩
    · by_cases h1 : N = 1
      · subst h1
        obtain ⟨x, rfl⟩ : ∃ x, T = [x] := by
          match T, hN with
          | [x], _ => exact ⟨x, rfl⟩
        rw [trL_one]
        obtain ⟨ad, A, C, rfl, hc, hx⟩ := hv.at_ (i := 0) (t := x) rfl
        have hx4 := hs.each x (by simp)
        have HT := Lib.hid (ofText_any n hn x _ w hx hx4 hk)
        obtain ⟨m, hm⟩ : ∃ m, m = x.length := ⟨_, rfl⟩
        rw [← hm] at HT hc
        rw [show ad.add 0 = ad by simp [Addr.add]] at hc
        have HL := Lib.hid (load_txt w ad _ hc)
        clear hv hk hs ih hN hn hc hx hm
        go_enter Tryd.func59, Tryd.ntmps59
        go_wp2_with (refine wpList_load_by rfl 22 (.tmp 17) rfl _ _ rfl HL.out ?_)
        refine HT.out.mono ?_
        rintro e w2 ⟨u, rfl, ht, hb2⟩
        have HB2 := Lib.hid hb2
        have HT := Lib.hid ht
        clear hb2 ht
        go_wp2
        go_ret
        exact ⟨_, rfl, HT.out, HB2.out⟩
      · have h2 : 2 ≤ N := by omega
        have hlt := splitN_lt h2
        have hp0 := splitN_pos N
        obtain ⟨k, hk2⟩ : ∃ k, k = splitN N := ⟨_, rfl⟩
        have HSplit := Lib.hid (fun W => splitAt_any N W h2 (by omega))
        rw [← hk2] at HSplit hlt hp0
        obtain ⟨vb, hvb⟩ : ∃ vb, vb = sliced a k N c 1 := ⟨_, rfl⟩
        have hv1 := hv.takeC k (by omega)
        have hv2 := hv.drop k (by omega)
        rw [← hvb] at hv2
        have HS1 := Lib.hid (fun W => slice_txs_toU a N c k (by omega) W)
        have HS2 := Lib.hid (fun W => slice_txs_fromU a N c k (by omega) W)
        rw [← hvb] at HS2
        have HR1 := Lib.hid (fun (W : World) (hW : Below w.heap.size w W) => ih k hlt (T.take k) (.slice a k c) W (by rw [List.length_take]; omega) (hv1.below (Nat.le_refl _) hW) (hs.take k) (hk.below (Nat.le_refl _) hW))
        have HR2 := Lib.hid (fun (W : World) (hW : Below w.heap.size w W) => ih (N - k) (by omega) (T.drop k) vb W (by rw [List.length_drop, hN]) (hv2.below (Nat.le_refl _) hW) (hs.drop k) (hk.below (Nat.le_refl _) hW))
        obtain ⟨t1, ht1⟩ : ∃ t, t = trL n (T.take k) := ⟨_, rfl⟩
        obtain ⟨t2, ht2⟩ : ∃ t, t = trL n (T.drop k) := ⟨_, rfl⟩
        have hnode : trL n T = .node (nodeH n t1.root t2.root) t1 t2 := by
          rw [trL_more n T (by omega), hN, ← hk2, ht1, ht2, trL_root, trL_root, rootT_more n T (by omega), hN, ← hk2]
        rw [← ht1] at HR1
        rw [← ht2] at HR2
        rw [hnode]
        have HOv := Lib.hid (fun (u v : Value) (W : World) (hu : IsTr W t1 u) (hv : IsTr W t2 v) (hW : Below w.heap.size w W) => over_tr n hn t1 t2 u v W hu hv (hk.below (Nat.le_refl _) hW))
        have hn0 : ¬ ((N : Int) = 0) := by omega
        have hn1 : ¬ ((N : Int) = 1) := by omega
        clear hv hk hs ih hN hn hv1 hv2 ht1 ht2 hnode hvb hk2 h0 h1
        go_enter Tryd.func59, Tryd.ntmps59
        go_wp2_with fail
        refine (HSplit.out _).mono ?_
        rintro e w1 ⟨rfl, rfl⟩
        go_upto_region 7 with fail
        have hG : ∀ W W' : World, Below w1.heap.size w1 W → Below W.heap.size W W' → Below w1.heap.size w1 W' := fun W W' h h' => h.trans (h'.mono h.size)
        refine region_by [(24, .is (.int .i64 n)), (25, .is (.int .i64 n)), (26, .is (.slice a N c)), (27, .is (.int .u64 (k : Int))), (28, .is (.slice a k c)), (29, trF t1), (30, .is (.int .i64 n)), (31, .is (.slice a N c)), (32, .is (.int .u64 (k : Int))), (33, .is vb), (34, trF t2), (35, trF (.node (nodeH n t1.root t2.root) t1 t2)), (4, trF (.node (nodeH n t1.root t2.root) t1 t2))] [4]
          (fun W => Below w1.heap.size w1 W) (by kernel_rfl) (by kernel_rfl) (by kernel_rfl) (by kernel_rfl) (by kernel_rfl) (hG _ _ (Below.refl _ _) (Below.refl _ _).drew) ?_ ?_
        · refine ⟨?a0, ?a1, ?a2, ?a3, ?a4, ?a5, ?a6, ?a7, ?a8, ?a9, ?a10, ?a11, ?a12, trivial⟩
          case a0 => exact ask_copy (guard_none rfl) (.tmp 0) (.inl rfl) (by intro k hk; cases hk; rfl)
          case a1 => exact ask_copy (guard_none rfl) (.tmp 0) (.inl rfl) (by intro k hk; cases hk; rfl)
          case a2 => exact ask_copy (guard_none rfl) (.tmp 1) (.inl rfl) (by intro k hk; cases hk; rfl)
          case a3 => exact ask_copy (guard_none rfl) (.tmp 5) (.inl rfl) (by intro k hk; cases hk; rfl)
          case a4 => exact ask_slice (guard_none rfl) _ (.tmp 26) none (some (.tmp 27)) none (.slice a N c) (.slice a k c) none (some (.int .u64 (k : Int))) none rfl rfl rfl rfl rfl (by intro k hk; cases hk; rfl) HS1.out
          case a5 => exact ask_call hG (guard_none rfl) _ _ _ #[.int .i64 n, .slice a k c] (trF t1) rfl (by kernel_rfl) rfl rfl (by intro k hk; cases hk; rfl) (fun W hW => (HR1.out W hW).mono fun e w' h => by obtain ⟨u, h1, h2, h3⟩ := h; exact ⟨u, h1, h2, h3⟩)
          case a6 => exact ask_copy (guard_none rfl) (.tmp 0) (.inl rfl) (by intro k hk; cases hk; rfl)
          case a7 => exact ask_copy (guard_none rfl) (.tmp 1) (.inl rfl) (by intro k hk; cases hk; rfl)
          case a8 => exact ask_copy (guard_none rfl) (.tmp 5) (.inl rfl) (by intro k hk; cases hk; rfl)
          case a9 => exact ask_slice (guard_none rfl) _ (.tmp 31) (some (.tmp 32)) none none (.slice a N c) vb (some (.int .u64 (k : Int))) none none rfl rfl rfl rfl rfl (by intro k hk; cases hk; rfl) HS2.out
          case a10 => exact ask_call hG (guard_none rfl) _ _ _ #[.int .i64 n, vb] (trF t2) rfl (by kernel_rfl) rfl rfl (by intro k hk; cases hk; rfl) (fun W hW => (HR2.out W hW).mono fun e w' h => by obtain ⟨u, h1, h2, h3⟩ := h; exact ⟨u, h1, h2, h3⟩)
          case a11 => exact ask_call_by hG (guard_none rfl) _ _ _ (trF (.node (nodeH n t1.root t2.root) t1 t2)) rfl (by kernel_rfl) (by intro k hk; cases hk; rfl) (fun x W hW hk => by
            have e24 : x 24 = .int .i64 n := hk 24 rfl
            have e29 : IsTr W t1 (x 29) := hk 29 rfl
            have e34 : IsTr W t2 (x 34) := hk 34 rfl
            show Calls _ _ #[x 24, x 29, x 34] W _
            rw [e24]
            refine (HOv.out (x 29) (x 34) W e29 e34 hW).mono ?_
            rintro e w' ⟨u, h1, h2, h3⟩
            exact ⟨u, h1, h2, h3⟩)
          case a12 => exact ask_copy (guard_none rfl) (.tmp 35) (.inr rfl) (by intro k hk; cases hk; rfl)
        intro a' W3 hW hd' hs' hf'
        have t4 : IsTr W3 (.node (nodeH n t1.root t2.root) t1 t2) (a'.tmps.getD 4 undef) := hf' 4 rfl
        obtain ⟨us', hus, ha'⟩ := act_open 36 a' hs' hd'
        rw [← hus] at t4
        subst ha'
        have HT := Lib.hid t4
        have HW := Lib.hid hW
        clear t4 hf' hs' hd' hus hW hG
        go_wp2
        go_ret
        exact ⟨_, rfl, HT.out, HW.out⟩

set_option maxHeartbeats 2000000 in
set_option maxRecDepth 100000 in
theorem climbed_any (n : Int) (hn : I64 n) (part : Tr) : ∀ (L i m : Nat) (ps : List Hs) (u v : Value) (w : World), ps.length = L → i < m → m < 18446744073709551616 → L ≤ sizeP i m → IsTr w part u → Hss w v ps → Tabs w →
    Calls Tryd.prog 65 #[.int .i64 n, u, .int .u64 (i : Int), .int .u64 (m : Int), v] w fun e w' => ∃ z, e = .returned z ∧ IsTr w' (trC n part i m ps) z ∧ Below w.heap.size w w' := by
  intro L
  induction L with
  | zero =>
    intro i m ps u v w hL him hm hl hu hv hk
    obtain rfl := List.eq_nil_of_length_eq_zero hL
    obtain ⟨a, c, rfl, _⟩ := hv.form
    rw [trC_nil]
    have HU := Lib.hid hu
    clear hu hv hk
    go_enter Tryd.func65, Tryd.ntmps65
    go_wp2
    go_ret
    exact ⟨_, rfl, HU.out, Below.refl _ _⟩
  | succ z ih =>
    intro i m ps u v w hp him hm hl hu hv hk
    have h2 : 2 ≤ m := by
      refine Decidable.byContradiction fun h => ?_
      obtain rfl : m = 1 := by omega
      rw [sizeP_one] at hl
      omega
    have hlt := splitN_lt h2
    have hp0 := splitN_pos m
    obtain ⟨k, hk2⟩ : ∃ k, k = splitN m := ⟨_, rfl⟩
    have HSplit := Lib.hid (fun W => splitAt_any m W (by omega) hm)
    rw [← hk2] at HSplit hlt hp0
    have hne : ps ≠ [] := ne_nil_of hp
    have h64 := sizeP_64 i m hm
    obtain ⟨p, hpp⟩ : ∃ p, p = z + 1 := ⟨_, rfl⟩
    rw [← hpp] at hp hl
    have hz : (p : Int) - 1 = (z : Int) := by omega
    obtain ⟨y, hy⟩ : ∃ y, ps[z]? = some y := ⟨ps[z]'(by omega), List.getElem?_eq_getElem _⟩
    have hlast : ps.getLastD [] = y := by
      obtain ⟨q, x, rfl⟩ : ∃ q x, ps = q ++ [x] := ⟨ps.dropLast, ps.getLast hne, (List.dropLast_concat_getLast hne).symm⟩
      have hzq : z = q.length := by simp at hp; omega
      rw [hzq] at hy
      simp at hy
      simp [hy]
    have hdl : ps.dropLast = ps.take z := by rw [List.dropLast_eq_take, hp]; congr 1; omega
    obtain ⟨pad, pc0, e0, hpc⟩ : ∃ pad pc, v = .slice (some pad) p pc ∧ p ≤ pc := by
      obtain ⟨a, c, e, hc⟩ := hv.form
      rw [hp] at e hc
      subst e
      obtain ⟨ad, rfl, _⟩ := hv.load hy
      exact ⟨ad, c, rfl, hc⟩
    subst e0
    obtain ⟨pc, hpcc⟩ : ∃ c, c = pc0 := ⟨_, rfl⟩
    rw [← hpcc] at hv hpc ⊢
    clear hpcc
    have hy32 := hv.all.get hy
    have HZP := Lib.hid hz
    have hv2 : Hss w (.slice (some pad) z pc) ps.dropLast := by
      have := hv.sub 0 z (by omega) (by omega)
      rw [sliced_zero2] at this
      rw [hdl]
      simpa using this
    have HLd := Lib.hid (fun (W : World) (hW : Below w.heap.size w W) => load_hash W (pad.add (z * 32)) y hy32 fun j u hj => by
      obtain ⟨ad2, e, h⟩ := (hv.below (Nat.le_refl _) hW).load hy
      cases e
      exact h j u hj)
    have HIx := Lib.hid (fun W => hss_index W pad p pc z (by omega))
    have HSl := Lib.hid (fun (W : World) => show (Instr.sliceAt 30 (.slice (some pad) p pc) none (some (.int .i64 (z : Int))) none).run Tryd.prog W = .ok (.slice (some pad) z pc) W by
      have h := slice_hs_to (some pad) p pc z (by omega) W
      rwa [sliced_zero2] at h)
    have HRt := Lib.hid (fun W => ofRoot_any y hy32 W)
    have hdlz : ps.dropLast.length = z := by rw [List.length_dropLast, hp]; omega
    have HU := Lib.hid (fun (W : World) (hW : Below w.heap.size w W) => hu.below hW)
    have hpn : ¬ ((p : Int) = 0) := by omega
    have hz64 : z ≤ 64 := by omega
    have hG : ∀ W W' : World, Below w.heap.size w W → Below W.heap.size W W' → Below w.heap.size w W' := fun W W' h h' => h.trans (h'.mono h.size)
    obtain ⟨sub, hsub⟩ : ∃ t, t = (if i < k then trC n part i k ps.dropLast else trC n part (i - k) (m - k) ps.dropLast) := ⟨_, rfl⟩
    have HOv := Lib.hid (fun (t1 t2 : Tr) (u v : Value) (W : World) (hu : IsTr W t1 u) (hv : IsTr W t2 v) (hW : Below w.heap.size w W) => over_tr n hn t1 t2 u v W hu hv (hk.below (Nat.le_refl _) hW))
    by_cases hik : i < k
    · have hs := sizeP_left h2 (i := i) (by rw [← hk2]; exact hik)
      rw [← hk2] at hs
      rw [if_pos hik] at hsub
      have hnode : trC n part i m ps = .node (nodeH n sub.root y) sub (.top y) := by rw [trC_left n part i m ps hne (by rw [← hk2]; exact hik), ← hk2, ← hsub, hlast]
      rw [hnode]
      have HRec := Lib.hid (fun (W : World) (hW : Below w.heap.size w W) => ih i k ps.dropLast u (.slice (some pad) z pc) W hdlz hik (by omega) (by omega) (hu.below hW) (hv2.below (Nat.le_refl _) hW) (hk.below (Nat.le_refl _) hW))
      rw [← hsub] at HRec
      have hik2 : (i : Int) < (k : Int) := by omega
      clear ih hu hv hl hk hs hnode hlast hdl hy hy32 hv2 hp hk2 hsub hne hpp h64 hdlz hlt hp0 hz
      go_enter Tryd.func65, Tryd.ntmps65
      go_upto_region 3 with fail
      refine region_by [(18, .is (.slice (some pad) p pc)), (19, .is (.slice (some pad) p pc)), (20, .is (.int .i64 (p : Int))), (21, .is (.int .i64 (z : Int))), (22, .is (.slice (some pad) z pc)), (23, .is (.slice (some pad) p pc)), (24, .is (.slice (some pad) p pc)), (25, .is (.int .i64 (p : Int))), (26, .is (.int .i64 (z : Int))), (27, .is (.pointer (some (pad.add (z * 32))))), (28, .is (.agg (bs y))), (29, trF (.top y)), (11, .is (.slice (some pad) z pc)), (12, trF (.top y))] [0, 1, 2, 3, 11, 12]
        (fun W => Below w.heap.size w W) (by kernel_rfl) (by kernel_rfl) (by kernel_rfl) (by kernel_rfl) (by kernel_rfl) (hG _ _ (Below.refl _ _) (Below.refl _ _).drew) ?_ ?_
      · refine ⟨?a0, ?a1, ?a2, ?a3, ?a4, ?a5, ?a6, ?a7, ?a8, ?a9, ?a10, ?a11, ?a12, ?a13, trivial⟩
        case a0 => exact ask_copy (guard_none rfl) (.tmp 4) (.inl rfl) (by intro k hk; cases hk; rfl)
        case a1 => exact ask_copy (guard_none rfl) (.tmp 4) (.inl rfl) (by intro k hk; cases hk; rfl)
        case a2 => exact ask_len (guard_none rfl) (.tmp 19) _ (some pad) p pc rfl (by kernel_rfl) rfl (by intro k hk; cases hk; rfl)
        case a3 => exact ask_bin (guard_none rfl) .sub _ _ (.tmp 20) (.const (.int .i64 1)) (.int .i64 (p : Int)) (.int .i64 1) (.int .i64 (z : Int)) rfl rfl rfl (by intro k hk; cases hk; rfl) (fun W => sub_i64 _ _ _ _ _ _ HZP.out (by omega) W)
        case a4 => exact ask_slice (guard_none rfl) _ (.tmp 18) none (some (.tmp 21)) none (.slice (some pad) p pc) (.slice (some pad) z pc) none (some (.int .i64 (z : Int))) none rfl rfl rfl rfl rfl (by intro k hk; cases hk; rfl) HSl.out
        case a5 => exact ask_copy (guard_none rfl) (.tmp 4) (.inl rfl) (by intro k hk; cases hk; rfl)
        case a6 => exact ask_copy (guard_none rfl) (.tmp 4) (.inl rfl) (by intro k hk; cases hk; rfl)
        case a7 => exact ask_len (guard_none rfl) (.tmp 24) _ (some pad) p pc rfl (by kernel_rfl) rfl (by intro k hk; cases hk; rfl)
        case a8 => exact ask_bin (guard_none rfl) .sub _ _ (.tmp 25) (.const (.int .i64 1)) (.int .i64 (p : Int)) (.int .i64 1) (.int .i64 (z : Int)) rfl rfl rfl (by intro k hk; cases hk; rfl) (fun W => sub_i64 _ _ _ _ _ _ HZP.out (by omega) W)
        case a9 => exact ask_idx (guard_none rfl) _ (.tmp 23) (.tmp 26) (.slice (some pad) p pc) (.int .i64 (z : Int)) (.pointer (some (pad.add (z * 32)))) rfl rfl rfl (by intro k hk; cases hk; rfl) HIx.out
        case a10 => exact ask_load (guard_none rfl) _ (.tmp 27) (.pointer (some (pad.add (z * 32)))) (.agg (bs y)) rfl rfl (by intro k hk; cases hk; rfl) (fun W hW => HLd.out W hW)
        case a11 => exact ask_call hG (guard_none rfl) _ _ _ #[.agg (bs y)] (trF (.top y)) rfl (by kernel_rfl) rfl rfl (by intro k hk; cases hk; rfl) (fun W hW => (HRt.out W).mono fun e w' h => by obtain ⟨u, h1, h2, h3⟩ := h; exact ⟨u, h1, h2, h3⟩)
        case a12 => exact ask_copy (guard_none rfl) (.tmp 22) (.inr rfl) (by intro k hk; cases hk; rfl)
        case a13 => exact ask_copy (guard_none rfl) (.tmp 29) (.inr rfl) (by intro k hk; cases hk; rfl)
      intro a' W3 hW hd' hs' hf'
      have t12 : IsTr W3 (.top y) (a'.tmps.getD 12 undef) := hf' 12 rfl
      have t0 : a'.tmps.getD 0 undef = .int .i64 n := hf' 0 rfl
      have t1 : a'.tmps.getD 1 undef = u := hf' 1 rfl
      have t2 : a'.tmps.getD 2 undef = .int .u64 (i : Int) := hf' 2 rfl
      have t3 : a'.tmps.getD 3 undef = .int .u64 (m : Int) := hf' 3 rfl
      have t11 : a'.tmps.getD 11 undef = .slice (some pad) z pc := hf' 11 rfl
      obtain ⟨us', hus, ha'⟩ := act_open 57 a' hs' hd'
      rw [← hus] at t0 t1 t2 t3 t11 t12
      obtain ⟨u12, hu12⟩ : ∃ u12, us' 12 = u12 := ⟨_, rfl⟩
      have el : ((List.range 57).map us').toArray = #[.int .i64 n, u, .int .u64 (i : Int), .int .u64 (m : Int), us' 4, us' 5, us' 6, us' 7, us' 8, us' 9, us' 10, .slice (some pad) z pc, u12, us' 13, us' 14, us' 15, us' 16, us' 17, us' 18, us' 19, us' 20, us' 21, us' 22, us' 23, us' 24, us' 25, us' 26, us' 27, us' 28, us' 29, us' 30, us' 31, us' 32, us' 33, us' 34, us' 35, us' 36, us' 37, us' 38, us' 39, us' 40, us' 41, us' 42, us' 43, us' 44, us' 45, us' 46, us' 47, us' 48, us' 49, us' 50, us' 51, us' 52, us' 53, us' 54, us' 55, us' 56] := by
        show #[us' 0, us' 1, us' 2, us' 3, us' 4, us' 5, us' 6, us' 7, us' 8, us' 9, us' 10, us' 11, us' 12, us' 13, us' 14, us' 15, us' 16, us' 17, us' 18, us' 19, us' 20, us' 21, us' 22, us' 23, us' 24, us' 25, us' 26, us' 27, us' 28, us' 29, us' 30, us' 31, us' 32, us' 33, us' 34, us' 35, us' 36, us' 37, us' 38, us' 39, us' 40, us' 41, us' 42, us' 43, us' 44, us' 45, us' 46, us' 47, us' 48, us' 49, us' 50, us' 51, us' 52, us' 53, us' 54, us' 55, us' 56] = _
        rw [t0, t1, t2, t3, t11, hu12]
      rw [el] at ha'
      rw [hu12] at t12
      subst ha'
      have HT12 := Lib.hid t12
      have HW := Lib.hid hW
      clear hus t0 t1 t2 t3 t11 t12 hu12 el hf' hs' hd' hW hG
      go_wp2_with fail
      refine (HSplit.out _).mono ?_
      rintro e W4 ⟨rfl, rfl⟩
      go_wp2_with fail
      refine (HRec.out _ HW.out).mono ?_
      rintro e W5 ⟨z5, rfl, hz5, hb5⟩
      have HZ5 := Lib.hid hz5
      have HB5 := Lib.hid (HW.out.trans (hb5.mono HW.out.size))
      have HT5 := Lib.hid (HT12.out.below hb5)
      clear hz5 hb5 HRec HT12
      go_wp2_with fail
      refine (HOv.out sub (.top y) z5 u12 W5 HZ5.out HT5.out HB5.out).mono ?_
      rintro e W6 ⟨z6, rfl, hz6, hb6⟩
      have HZ6 := Lib.hid hz6
      have HB6 := Lib.hid (HB5.out.trans (hb6.mono HB5.out.size))
      clear hz6 hb6
      go_wp2
      go_ret
      exact ⟨_, rfl, HZ6.out, HB6.out⟩
    · have hs := sizeP_right h2 (i := i) (by rw [← hk2]; exact hik) him
      rw [← hk2] at hs
      rw [if_neg hik] at hsub
      have hnode : trC n part i m ps = .node (nodeH n y sub.root) (.top y) sub := by rw [trC_right n part i m ps hne (by rw [← hk2]; exact hik), ← hk2, ← hsub, hlast]
      rw [hnode]
      have HRec := Lib.hid (fun (W : World) (hW : Below w.heap.size w W) => ih (i - k) (m - k) ps.dropLast u (.slice (some pad) z pc) W hdlz (by omega) (by omega) (by omega) (hu.below hW) (hv2.below (Nat.le_refl _) hW) (hk.below (Nat.le_refl _) hW))
      rw [← hsub] at HRec
      obtain ⟨i2, hi2⟩ : ∃ j, j = i - k := ⟨_, rfl⟩
      obtain ⟨m2, hm2⟩ : ∃ j, j = m - k := ⟨_, rfl⟩
      rw [← hi2, ← hm2] at HRec
      have hwi : (i : Int) - (k : Int) = (i2 : Int) := by omega
      have hwm : (m : Int) - (k : Int) = (m2 : Int) := by omega
      have HWi := Lib.hid hwi
      have HWm := Lib.hid hwm
      have hik2 : ¬ (i : Int) < (k : Int) := by omega
      clear ih hu hv hl hk hs hnode hlast hdl hy hy32 hv2 hp hk2 hsub hne hpp h64 hdlz hlt hp0 hz hwi hwm hi2 hm2
      go_enter Tryd.func65, Tryd.ntmps65
      go_upto_region 3 with fail
      refine region_by [(18, .is (.slice (some pad) p pc)), (19, .is (.slice (some pad) p pc)), (20, .is (.int .i64 (p : Int))), (21, .is (.int .i64 (z : Int))), (22, .is (.slice (some pad) z pc)), (23, .is (.slice (some pad) p pc)), (24, .is (.slice (some pad) p pc)), (25, .is (.int .i64 (p : Int))), (26, .is (.int .i64 (z : Int))), (27, .is (.pointer (some (pad.add (z * 32))))), (28, .is (.agg (bs y))), (29, trF (.top y)), (11, .is (.slice (some pad) z pc)), (12, trF (.top y))] [0, 1, 2, 3, 11, 12]
        (fun W => Below w.heap.size w W) (by kernel_rfl) (by kernel_rfl) (by kernel_rfl) (by kernel_rfl) (by kernel_rfl) (hG _ _ (Below.refl _ _) (Below.refl _ _).drew) ?_ ?_
      · refine ⟨?a0, ?a1, ?a2, ?a3, ?a4, ?a5, ?a6, ?a7, ?a8, ?a9, ?a10, ?a11, ?a12, ?a13, trivial⟩
        case a0 => exact ask_copy (guard_none rfl) (.tmp 4) (.inl rfl) (by intro k hk; cases hk; rfl)
        case a1 => exact ask_copy (guard_none rfl) (.tmp 4) (.inl rfl) (by intro k hk; cases hk; rfl)
        case a2 => exact ask_len (guard_none rfl) (.tmp 19) _ (some pad) p pc rfl (by kernel_rfl) rfl (by intro k hk; cases hk; rfl)
        case a3 => exact ask_bin (guard_none rfl) .sub _ _ (.tmp 20) (.const (.int .i64 1)) (.int .i64 (p : Int)) (.int .i64 1) (.int .i64 (z : Int)) rfl rfl rfl (by intro k hk; cases hk; rfl) (fun W => sub_i64 _ _ _ _ _ _ HZP.out (by omega) W)
        case a4 => exact ask_slice (guard_none rfl) _ (.tmp 18) none (some (.tmp 21)) none (.slice (some pad) p pc) (.slice (some pad) z pc) none (some (.int .i64 (z : Int))) none rfl rfl rfl rfl rfl (by intro k hk; cases hk; rfl) HSl.out
        case a5 => exact ask_copy (guard_none rfl) (.tmp 4) (.inl rfl) (by intro k hk; cases hk; rfl)
        case a6 => exact ask_copy (guard_none rfl) (.tmp 4) (.inl rfl) (by intro k hk; cases hk; rfl)
        case a7 => exact ask_len (guard_none rfl) (.tmp 24) _ (some pad) p pc rfl (by kernel_rfl) rfl (by intro k hk; cases hk; rfl)
        case a8 => exact ask_bin (guard_none rfl) .sub _ _ (.tmp 25) (.const (.int .i64 1)) (.int .i64 (p : Int)) (.int .i64 1) (.int .i64 (z : Int)) rfl rfl rfl (by intro k hk; cases hk; rfl) (fun W => sub_i64 _ _ _ _ _ _ HZP.out (by omega) W)
        case a9 => exact ask_idx (guard_none rfl) _ (.tmp 23) (.tmp 26) (.slice (some pad) p pc) (.int .i64 (z : Int)) (.pointer (some (pad.add (z * 32)))) rfl rfl rfl (by intro k hk; cases hk; rfl) HIx.out
        case a10 => exact ask_load (guard_none rfl) _ (.tmp 27) (.pointer (some (pad.add (z * 32)))) (.agg (bs y)) rfl rfl (by intro k hk; cases hk; rfl) (fun W hW => HLd.out W hW)
        case a11 => exact ask_call hG (guard_none rfl) _ _ _ #[.agg (bs y)] (trF (.top y)) rfl (by kernel_rfl) rfl rfl (by intro k hk; cases hk; rfl) (fun W hW => (HRt.out W).mono fun e w' h => by obtain ⟨u, h1, h2, h3⟩ := h; exact ⟨u, h1, h2, h3⟩)
        case a12 => exact ask_copy (guard_none rfl) (.tmp 22) (.inr rfl) (by intro k hk; cases hk; rfl)
        case a13 => exact ask_copy (guard_none rfl) (.tmp 29) (.inr rfl) (by intro k hk; cases hk; rfl)
      intro a' W3 hW hd' hs' hf'
      have t12 : IsTr W3 (.top y) (a'.tmps.getD 12 undef) := hf' 12 rfl
      have t0 : a'.tmps.getD 0 undef = .int .i64 n := hf' 0 rfl
      have t1 : a'.tmps.getD 1 undef = u := hf' 1 rfl
      have t2 : a'.tmps.getD 2 undef = .int .u64 (i : Int) := hf' 2 rfl
      have t3 : a'.tmps.getD 3 undef = .int .u64 (m : Int) := hf' 3 rfl
      have t11 : a'.tmps.getD 11 undef = .slice (some pad) z pc := hf' 11 rfl
      obtain ⟨us', hus, ha'⟩ := act_open 57 a' hs' hd'
      rw [← hus] at t0 t1 t2 t3 t11 t12
      obtain ⟨u12, hu12⟩ : ∃ u12, us' 12 = u12 := ⟨_, rfl⟩
      have el : ((List.range 57).map us').toArray = #[.int .i64 n, u, .int .u64 (i : Int), .int .u64 (m : Int), us' 4, us' 5, us' 6, us' 7, us' 8, us' 9, us' 10, .slice (some pad) z pc, u12, us' 13, us' 14, us' 15, us' 16, us' 17, us' 18, us' 19, us' 20, us' 21, us' 22, us' 23, us' 24, us' 25, us' 26, us' 27, us' 28, us' 29, us' 30, us' 31, us' 32, us' 33, us' 34, us' 35, us' 36, us' 37, us' 38, us' 39, us' 40, us' 41, us' 42, us' 43, us' 44, us' 45, us' 46, us' 47, us' 48, us' 49, us' 50, us' 51, us' 52, us' 53, us' 54, us' 55, us' 56] := by
        show #[us' 0, us' 1, us' 2, us' 3, us' 4, us' 5, us' 6, us' 7, us' 8, us' 9, us' 10, us' 11, us' 12, us' 13, us' 14, us' 15, us' 16, us' 17, us' 18, us' 19, us' 20, us' 21, us' 22, us' 23, us' 24, us' 25, us' 26, us' 27, us' 28, us' 29, us' 30, us' 31, us' 32, us' 33, us' 34, us' 35, us' 36, us' 37, us' 38, us' 39, us' 40, us' 41, us' 42, us' 43, us' 44, us' 45, us' 46, us' 47, us' 48, us' 49, us' 50, us' 51, us' 52, us' 53, us' 54, us' 55, us' 56] = _
        rw [t0, t1, t2, t3, t11, hu12]
      rw [el] at ha'
      rw [hu12] at t12
      subst ha'
      have HT12 := Lib.hid t12
      have HW := Lib.hid hW
      clear hus t0 t1 t2 t3 t11 t12 hu12 el hf' hs' hd' hW hG
      go_wp2_with fail
      refine (HSplit.out _).mono ?_
      rintro e W4 ⟨rfl, rfl⟩
      go_wp2_with fail
      rw [HWi.out, HWm.out]
      refine (HRec.out _ HW.out).mono ?_
      rintro e W5 ⟨z5, rfl, hz5, hb5⟩
      have HZ5 := Lib.hid hz5
      have HB5 := Lib.hid (HW.out.trans (hb5.mono HW.out.size))
      have HT5 := Lib.hid (HT12.out.below hb5)
      clear hz5 hb5 HRec HT12
      go_wp2_with fail
      refine (HOv.out (.top y) sub u12 z5 W5 HT5.out HZ5.out HB5.out).mono ?_
      rintro e W6 ⟨z6, rfl, hz6, hb6⟩
      have HZ6 := Lib.hid hz6
      have HB6 := Lib.hid (HB5.out.trans (hb6.mono HB5.out.size))
      clear hz6 hb6
      go_wp2
      go_ret
      exact ⟨_, rfl, HZ6.out, HB6.out⟩
end Go.Proofs.YtdhfabjkpffhnaaDoor

