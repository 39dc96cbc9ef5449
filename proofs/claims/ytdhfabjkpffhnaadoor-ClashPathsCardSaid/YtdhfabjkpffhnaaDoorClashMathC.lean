/- Plain facts on two texts of one hash that lie in trees and in what a proof shows. No program is named here. -/
import Derived.Test.YtdhfabjkpffhnaaDoorPathMath
import Derived.Test.YtdhfabjkpffhnaaDoorGCG
namespace Go.Proofs.YtdhfabjkpffhnaaDoor.ClashMath
set_option maxRecDepth 20000
open ShaMath LeafMath PathMath GrowthMath

abbrev Bs := List UInt8

/-- The root of texts. -/
def rootT (w : Int) (T : List Bs) : Hs := rootH w (T.map (leafH w))

theorem leaves_32 (w : Int) (T : List Bs) : ∀ x ∈ T.map (leafH w), x.length = 32 := by
  intro x hx
  obtain ⟨t, _, rfl⟩ := List.mem_map.1 hx
  exact leafH_length _ _
theorem rootT_length (w : Int) (T : List Bs) : (rootT w T).length = 32 := rootH_length w _ (leaves_32 w T)
theorem rootT_one (w : Int) (x : Bs) : rootT w [x] = leafH w x := rootH_one w _
theorem rootT_more (w : Int) (T : List Bs) (h : 2 ≤ T.length) : rootT w T = nodeH w (rootT w (T.take (splitN T.length))) (rootT w (T.drop (splitN T.length))) := by
  unfold rootT
  rw [rootH_more w _ (by rw [List.length_map]; exact h), List.length_map, List.map_take, List.map_drop]

/-- What is hashed for a node. -/
def nodeT (l r : Hs) : Bs := 1 :: (l ++ r)
theorem nodeT_hash (w : Int) (l r : Hs) : hashW w (nodeT l r) = nodeH w l r := rfl
theorem nodeT_inj {l r l' r' : Hs} (hl : l.length = l'.length) (h : nodeT l r = nodeT l' r') : l = l' ∧ r = r' :=
  List.append_inj (List.cons.inj h).2 hl

/-- What is hashed for the root of texts. -/
def hashedT (w : Int) (T : List Bs) : Bs := if T.length = 1 then 0 :: T.headD [] else nodeT (rootT w (T.take (splitN T.length))) (rootT w (T.drop (splitN T.length)))
theorem hashedT_one (w : Int) (x : Bs) : hashedT w [x] = 0 :: x := rfl
theorem hashedT_more (w : Int) (T : List Bs) (h : 2 ≤ T.length) : hashedT w T = nodeT (rootT w (T.take (splitN T.length))) (rootT w (T.drop (splitN T.length))) := by rw [hashedT, if_neg (by omega)]
theorem hashedT_hash (w : Int) (T : List Bs) (h : 1 ≤ T.length) : hashW w (hashedT w T) = rootT w T := by
  by_cases h2 : 2 ≤ T.length
  · rw [hashedT_more w T h2, nodeT_hash, rootT_more w T h2]
  · match T, h with
    | [x], _ => rw [hashedT_one, rootT_one]; rfl
    | _ :: _ :: _, _ => simp at h2

/-- Two unlike texts of one hash. -/
def isClash (w : Int) (p : Bs × Bs) : Bool := p.1 != p.2 && hashW w p.1 == hashW w p.2
theorem isClash_none (w : Int) : isClash w ([], []) = false := by simp [isClash]
theorem isClash_of {w : Int} {p : Bs × Bs} (h1 : p.1 ≠ p.2) (h2 : hashW w p.1 = hashW w p.2) : isClash w p = true := by
  simp only [isClash, Bool.and_eq_true, bne_iff_ne, beq_iff_eq]
  exact ⟨h1, h2⟩

/-! ### Two lists -/

/-- The way down two lists of as many texts. -/
def downT (w : Int) (a b : List Bs) : Option (Bs × Bs) :=
  if hashedT w a ≠ hashedT w b then some (hashedT w a, hashedT w b)
  else if _h : 2 ≤ a.length then
    (match downT w (a.take (splitN a.length)) (b.take (splitN a.length)) with
     | some p => some p
     | none => downT w (a.drop (splitN a.length)) (b.drop (splitN a.length)))
  else none
termination_by a.length
decreasing_by
  all_goals
    have := splitN_lt (n := a.length) (by omega)
    have := splitN_pos a.length
    simp
    omega

theorem downT_ne (w : Int) (a b : List Bs) (h : hashedT w a ≠ hashedT w b) : downT w a b = some (hashedT w a, hashedT w b) := by rw [downT, if_pos h]
theorem downT_one (w : Int) (a b : List Bs) (h : hashedT w a = hashedT w b) (h1 : a.length < 2) : downT w a b = none := by rw [downT, if_neg (by simpa using h), dif_neg (by omega)]
theorem downT_more (w : Int) (a b : List Bs) (h : hashedT w a = hashedT w b) (h2 : 2 ≤ a.length) : downT w a b = (match downT w (a.take (splitN a.length)) (b.take (splitN a.length)) with
     | some p => some p
     | none => downT w (a.drop (splitN a.length)) (b.drop (splitN a.length))) := by rw [downT, if_neg (by simpa using h), dif_pos h2]

theorem down_clash (w : Int) : ∀ (n : Nat) (a b : List Bs) (p : Bs × Bs), a.length = n → b.length = n → 1 ≤ n → rootT w a = rootT w b → downT w a b = some p → isClash w p = true := by
  intro n
  induction n using Nat.strongRecOn with
  | ind n ih =>
    intro a b p ha hb h1 hr hd
    by_cases hne : hashedT w a = hashedT w b
    · by_cases h2 : 2 ≤ a.length
      · have hk := splitN_lt h2
        have hk0 := splitN_pos a.length
        rw [downT_more w a b hne h2] at hd
        rw [hashedT_more w a h2, hashedT_more w b (by omega), show b.length = a.length by omega] at hne
        obtain ⟨e1, e2⟩ := nodeT_inj (by rw [rootT_length, rootT_length]) hne
        cases hx : downT w (a.take (splitN a.length)) (b.take (splitN a.length)) with
        | some q =>
          rw [hx] at hd
          cases hd
          exact ih (splitN a.length) (by omega) _ _ _ (by rw [List.length_take]; omega) (by rw [List.length_take]; omega) (by omega) e1 hx
        | none =>
          rw [hx] at hd
          exact ih (n - splitN a.length) (by omega) _ _ _ (by rw [List.length_drop]; omega) (by rw [List.length_drop]; omega) (by omega) e2 hd
      · rw [downT_one w a b hne (by omega)] at hd
        cases hd
    · rw [downT_ne w a b hne] at hd
      cases hd
      exact isClash_of hne (by rw [hashedT_hash w a (by omega), hashedT_hash w b (by omega), hr])

/-- What Lists answers. -/
def listsT (w : Int) (a b : List Bs) : (Bs × Bs) × Nat :=
  if a.length ≠ b.length then (([], []), 9) else if rootT w a ≠ rootT w b then (([], []), 3) else if a.length = 0 then (([], []), 8) else
  (match downT w a b with | some p => (p, 0) | none => (([], []), 8))

theorem lists_clash (w : Int) (a b : List Bs) : decide ((listsT w a b).2 = 0) = isClash w (listsT w a b).1 := by
  unfold listsT
  by_cases h1 : a.length ≠ b.length
  · rw [if_pos h1, isClash_none]; rfl
  · rw [if_neg h1]
    by_cases h2 : rootT w a ≠ rootT w b
    · rw [if_pos h2, isClash_none]; rfl
    · rw [if_neg h2]
      by_cases h3 : a.length = 0
      · rw [if_pos h3, isClash_none]; rfl
      · rw [if_neg h3]
        cases hd : downT w a b with
        | none => simp [isClash_none]
        | some p =>
          have := down_clash w a.length a b p rfl (by omega) (by omega) (by simpa using h2) hd
          simp [this]

/-! ### A text at a place -/

/-- The way down to a place, by a proof of the right length that shows the list's root. -/
def pathT (w : Int) (T : List Bs) (i : Nat) (x : Bs) (p : List Hs) : Bs × Bs :=
  if _h : 2 ≤ T.length then
    (if i < splitN T.length then
      (if nodeT (climbP w i (splitN T.length) p.dropLast (leafH w x)) (p.getLastD []) ≠ hashedT w T then (hashedT w T, nodeT (climbP w i (splitN T.length) p.dropLast (leafH w x)) (p.getLastD []))
       else pathT w (T.take (splitN T.length)) i x p.dropLast)
     else
      (if nodeT (p.getLastD []) (climbP w (i - splitN T.length) (T.length - splitN T.length) p.dropLast (leafH w x)) ≠ hashedT w T then (hashedT w T, nodeT (p.getLastD []) (climbP w (i - splitN T.length) (T.length - splitN T.length) p.dropLast (leafH w x)))
       else pathT w (T.drop (splitN T.length)) (i - splitN T.length) x p.dropLast))
  else (0 :: T.headD [], 0 :: x)
termination_by T.length
decreasing_by
  all_goals
    have := splitN_lt (n := T.length) (by omega)
    have := splitN_pos T.length
    simp
    omega

theorem pathT_one (w : Int) (T : List Bs) (i : Nat) (x : Bs) (p : List Hs) (h : T.length < 2) : pathT w T i x p = (0 :: T.headD [], 0 :: x) := by rw [pathT, dif_neg (by omega)]
theorem pathT_left (w : Int) (T : List Bs) (i : Nat) (x : Bs) (p : List Hs) (h2 : 2 ≤ T.length) (hi : i < splitN T.length) :
    pathT w T i x p = if nodeT (climbP w i (splitN T.length) p.dropLast (leafH w x)) (p.getLastD []) ≠ hashedT w T then (hashedT w T, nodeT (climbP w i (splitN T.length) p.dropLast (leafH w x)) (p.getLastD [])) else pathT w (T.take (splitN T.length)) i x p.dropLast := by
  rw [pathT, dif_pos h2, if_pos hi]
theorem pathT_right (w : Int) (T : List Bs) (i : Nat) (x : Bs) (p : List Hs) (h2 : 2 ≤ T.length) (hi : ¬ i < splitN T.length) :
    pathT w T i x p = if nodeT (p.getLastD []) (climbP w (i - splitN T.length) (T.length - splitN T.length) p.dropLast (leafH w x)) ≠ hashedT w T then (hashedT w T, nodeT (p.getLastD []) (climbP w (i - splitN T.length) (T.length - splitN T.length) p.dropLast (leafH w x))) else pathT w (T.drop (splitN T.length)) (i - splitN T.length) x p.dropLast := by
  rw [pathT, dif_pos h2, if_neg hi]

theorem last_32 {p : List Hs} (hp : ∀ x ∈ p, x.length = 32) (h : 0 < p.length) : (p.getLastD []).length = 32 := by
  match p, h with
  | x :: t, _ =>
    have e : (x :: t).getLastD [] = (x :: t).getLast (by simp) := by simp [List.getLastD]
    rw [e]
    exact hp _ (List.getLast_mem _)
theorem dropLast_32 {p : List Hs} (hp : ∀ x ∈ p, x.length = 32) : ∀ x ∈ p.dropLast, x.length = 32 := fun x hx => hp x (List.dropLast_subset _ hx)

theorem path_clash (w : Int) : ∀ (n : Nat) (T : List Bs) (i : Nat) (x : Bs) (p : List Hs) (t : Bs), T.length = n → T[i]? = some t → t ≠ x → p.length = sizeP i n → (∀ y ∈ p, y.length = 32) → climbP w i n p (leafH w x) = rootT w T →
    isClash w (pathT w T i x p) = true := by
  intro n
  induction n using Nat.strongRecOn with
  | ind n ih =>
    intro T i x p t hn hi hne hl hp hr
    subst hn
    have hlt : i < T.length := (List.getElem?_eq_some_iff.1 hi).1
    by_cases h2 : 2 ≤ T.length
    · have hk := splitN_lt h2
      have hk0 := splitN_pos T.length
      by_cases hik : i < splitN T.length
      · rw [sizeP_left h2 hik] at hl
        rw [climbP_left w p _ h2 hik] at hr
        rw [pathT_left w T i x p h2 hik]
        by_cases he : nodeT (climbP w i (splitN T.length) p.dropLast (leafH w x)) (p.getLastD []) = hashedT w T
        · rw [if_neg (by simpa using he)]
          rw [hashedT_more w T h2] at he
          obtain ⟨e1, _⟩ := nodeT_inj (by rw [climbP_length _ _ _ _ _ (leafH_length _ _), rootT_length]) he
          exact ih (splitN T.length) hk _ i x p.dropLast t (by rw [List.length_take]; omega) (by rw [List.getElem?_take, if_pos hik]; exact hi) hne (by rw [List.length_dropLast]; omega) (dropLast_32 hp) e1
        · rw [if_pos he]
          exact isClash_of (fun e => he e.symm) (by rw [hashedT_hash w T (by omega)]; exact hr.symm)
      · rw [sizeP_right h2 hik hlt] at hl
        rw [climbP_right w p _ h2 hik] at hr
        rw [pathT_right w T i x p h2 hik]
        by_cases he : nodeT (p.getLastD []) (climbP w (i - splitN T.length) (T.length - splitN T.length) p.dropLast (leafH w x)) = hashedT w T
        · rw [if_neg (by simpa using he)]
          rw [hashedT_more w T h2] at he
          obtain ⟨_, e2⟩ := nodeT_inj (by rw [last_32 hp (by omega), rootT_length]) he
          exact ih (T.length - splitN T.length) (by omega) _ (i - splitN T.length) x p.dropLast t (by rw [List.length_drop]) (by rw [List.getElem?_drop, show splitN T.length + (i - splitN T.length) = i by omega]; exact hi) hne (by rw [List.length_dropLast]; omega) (dropLast_32 hp) e2
        · rw [if_pos he]
          exact isClash_of (fun e => he e.symm) (by rw [hashedT_hash w T (by omega)]; exact hr.symm)
    · match T, hlt, h2, hi with
      | [y], hlt, _, hi =>
        obtain rfl : i = 0 := by simp at hlt; omega
        simp at hi
        subst hi
        rw [pathT_one w [y] 0 x p (by simp)]
        rw [climbP_one _ _ _ _ _ (by simp), rootT_one] at hr
        exact isClash_of (by simpa using hne) hr.symm
      | _ :: _ :: _, _, h2, _ => simp at h2

/-! ### An old root -/

/-- The root over all leaves that a part shows. -/
def newerT (w : Int) (m n : Nat) (old : Hs) (p : List Hs) (whole : Bool) : Hs := (showG w m n old p whole).2

/-- The way down to where the first m end. -/
def growT (w : Int) (T : List Bs) (m : Nat) (old : Hs) (p : List Hs) (whole : Bool) : Option (Bs × Bs) :=
  if _h : m < T.length ∧ 2 ≤ T.length then
    (if m ≤ splitN T.length then
      (if nodeT (newerT w m (splitN T.length) old p.dropLast whole) (p.getLastD []) ≠ hashedT w T then some (hashedT w T, nodeT (newerT w m (splitN T.length) old p.dropLast whole) (p.getLastD []))
       else growT w (T.take (splitN T.length)) m old p.dropLast whole)
     else
      (if nodeT (p.getLastD []) (newerT w (m - splitN T.length) (T.length - splitN T.length) old p.dropLast false) ≠ hashedT w T then some (hashedT w T, nodeT (p.getLastD []) (newerT w (m - splitN T.length) (T.length - splitN T.length) old p.dropLast false))
       else growT w (T.drop (splitN T.length)) (m - splitN T.length) old p.dropLast false))
  else none
termination_by T.length
decreasing_by
  all_goals
    have := splitN_lt (n := T.length) (by omega)
    have := splitN_pos T.length
    simp
    omega

theorem growT_all (w : Int) (T : List Bs) (m : Nat) (old : Hs) (p : List Hs) (whole : Bool) (h : T.length ≤ m) : growT w T m old p whole = none := by rw [growT, dif_neg (by omega)]
theorem growT_left (w : Int) (T : List Bs) (m : Nat) (old : Hs) (p : List Hs) (whole : Bool) (hm : m < T.length) (h2 : 2 ≤ T.length) (hk : m ≤ splitN T.length) :
    growT w T m old p whole = if nodeT (newerT w m (splitN T.length) old p.dropLast whole) (p.getLastD []) ≠ hashedT w T then some (hashedT w T, nodeT (newerT w m (splitN T.length) old p.dropLast whole) (p.getLastD [])) else growT w (T.take (splitN T.length)) m old p.dropLast whole := by
  rw [growT, dif_pos ⟨hm, h2⟩, if_pos hk]
theorem growT_right (w : Int) (T : List Bs) (m : Nat) (old : Hs) (p : List Hs) (whole : Bool) (hm : m < T.length) (h2 : 2 ≤ T.length) (hk : ¬ m ≤ splitN T.length) :
    growT w T m old p whole = if nodeT (p.getLastD []) (newerT w (m - splitN T.length) (T.length - splitN T.length) old p.dropLast false) ≠ hashedT w T then some (hashedT w T, nodeT (p.getLastD []) (newerT w (m - splitN T.length) (T.length - splitN T.length) old p.dropLast false)) else growT w (T.drop (splitN T.length)) (m - splitN T.length) old p.dropLast false := by
  rw [growT, dif_pos ⟨hm, h2⟩, if_neg hk]

theorem newerT_length (w : Int) (m n : Nat) (old : Hs) (p : List Hs) (whole : Bool) (ho : old.length = 32) (hp : ∀ x ∈ p, x.length = 32) (hm : m ≤ n) (hl : p.length = sizeG m n whole) : (newerT w m n old p whole).length = 32 := (showG_length w n m old p whole ho hp hm hl).2

theorem grow_clash (w : Int) : ∀ (n : Nat) (T : List Bs) (m : Nat) (old : Hs) (p : List Hs) (whole : Bool) (q : Bs × Bs), T.length = n → 1 ≤ m → m ≤ n → old.length = 32 → p.length = sizeG m n whole → (∀ y ∈ p, y.length = 32) → newerT w m n old p whole = rootT w T →
    growT w T m old p whole = some q → isClash w q = true := by
  intro n
  induction n using Nat.strongRecOn with
  | ind n ih =>
    intro T m old p whole q hn h1 hmn ho hl hp hr hq
    subst hn
    by_cases hm : m < T.length
    · have h2 : 2 ≤ T.length := by omega
      have hk := splitN_lt h2
      have hk0 := splitN_pos T.length
      by_cases hmk : m ≤ splitN T.length
      · rw [sizeG_left whole hm h2 hmk] at hl
        rw [newerT, showG_left w old p whole hm h2 hmk] at hr
        rw [growT_left w T m old p whole hm h2 hmk] at hq
        by_cases he : nodeT (newerT w m (splitN T.length) old p.dropLast whole) (p.getLastD []) = hashedT w T
        · rw [if_neg (by simpa using he)] at hq
          rw [hashedT_more w T h2] at he
          obtain ⟨e1, _⟩ := nodeT_inj (by rw [newerT_length w _ _ _ _ _ ho (dropLast_32 hp) hmk (by rw [List.length_dropLast]; omega), rootT_length]) he
          exact ih (splitN T.length) hk _ m old p.dropLast whole q (by rw [List.length_take]; omega) h1 hmk ho (by rw [List.length_dropLast]; omega) (dropLast_32 hp) e1 hq
        · rw [if_pos he] at hq
          cases hq
          exact isClash_of (fun e => he e.symm) (by rw [hashedT_hash w T (by omega)]; exact hr.symm)
      · rw [sizeG_right whole hm h2 hmk] at hl
        rw [newerT, showG_right w old p whole hm h2 hmk] at hr
        rw [growT_right w T m old p whole hm h2 hmk] at hq
        by_cases he : nodeT (p.getLastD []) (newerT w (m - splitN T.length) (T.length - splitN T.length) old p.dropLast false) = hashedT w T
        · rw [if_neg (by simpa using he)] at hq
          rw [hashedT_more w T h2] at he
          obtain ⟨_, e2⟩ := nodeT_inj (by rw [last_32 hp (by omega), rootT_length]) he
          exact ih (T.length - splitN T.length) (by omega) _ (m - splitN T.length) old p.dropLast false q (by rw [List.length_drop]) (by omega) (by omega) ho (by rw [List.length_dropLast]; omega) (dropLast_32 hp) e2 hq
        · rw [if_pos he] at hq
          cases hq
          exact isClash_of (fun e => he e.symm) (by rw [hashedT_hash w T (by omega)]; exact hr.symm)
    · rw [growT_all w T m old p whole (by omega)] at hq
      cases hq

/-- Where nothing is found, the old root that is shown is the list's. -/
theorem grow_none (w : Int) : ∀ (n : Nat) (T : List Bs) (m : Nat) (old : Hs) (p : List Hs) (whole : Bool), T.length = n → 1 ≤ m → m ≤ n → old.length = 32 → p.length = sizeG m n whole → (∀ y ∈ p, y.length = 32) → newerT w m n old p whole = rootT w T →
    growT w T m old p whole = none → (showG w m n old p whole).1 = rootT w (T.take m) := by
  intro n
  induction n using Nat.strongRecOn with
  | ind n ih =>
    intro T m old p whole hn h1 hmn ho hl hp hr hq
    subst hn
    by_cases hm : m < T.length
    · have h2 : 2 ≤ T.length := by omega
      have hk := splitN_lt h2
      have hk0 := splitN_pos T.length
      by_cases hmk : m ≤ splitN T.length
      · rw [sizeG_left whole hm h2 hmk] at hl
        rw [showG_left w old p whole hm h2 hmk]
        rw [growT_left w T m old p whole hm h2 hmk] at hq
        by_cases he : nodeT (newerT w m (splitN T.length) old p.dropLast whole) (p.getLastD []) = hashedT w T
        · rw [if_neg (by simpa using he)] at hq
          rw [hashedT_more w T h2] at he
          obtain ⟨e1, _⟩ := nodeT_inj (by rw [newerT_length w _ _ _ _ _ ho (dropLast_32 hp) hmk (by rw [List.length_dropLast]; omega), rootT_length]) he
          have := ih (splitN T.length) hk _ m old p.dropLast whole (by rw [List.length_take]; omega) h1 hmk ho (by rw [List.length_dropLast]; omega) (dropLast_32 hp) e1 hq
          rw [List.take_take, Nat.min_eq_left hmk] at this
          exact this
        · rw [if_pos he] at hq
          cases hq
      · rw [sizeG_right whole hm h2 hmk] at hl
        rw [showG_right w old p whole hm h2 hmk]
        rw [growT_right w T m old p whole hm h2 hmk] at hq
        by_cases he : nodeT (p.getLastD []) (newerT w (m - splitN T.length) (T.length - splitN T.length) old p.dropLast false) = hashedT w T
        · rw [if_neg (by simpa using he)] at hq
          rw [hashedT_more w T h2] at he
          obtain ⟨e1, e2⟩ := nodeT_inj (by rw [last_32 hp (by omega), rootT_length]) he
          have h3 := ih (T.length - splitN T.length) (by omega) _ (m - splitN T.length) old p.dropLast false (by rw [List.length_drop]) (by omega) (by omega) ho (by rw [List.length_dropLast]; omega) (dropLast_32 hp) e2 hq
          have hml : (T.take m).length = m := by rw [List.length_take]; omega
          have hge := splitN_ge h2
          obtain ⟨j, hj⟩ := splitN_pow T.length
          have hs : splitN (T.take m).length = splitN T.length := by rw [hml, hj]; exact splitN_is (by omega) (by omega)
          rw [rootT_more w (T.take m) (by omega), hs, List.take_take, Nat.min_eq_left (by omega), List.drop_take, e1, h3]
        · rw [if_pos he] at hq
          cases hq
    · obtain rfl : m = T.length := by omega
      rw [newerT, showG_all] at hr
      rw [showG_all, List.take_length]
      cases whole with
      | true => exact hr
      | false => exact hr
end Go.Proofs.YtdhfabjkpffhnaaDoor.ClashMath

