/- What layer 17 answers, and that it is a clash where it says so. -/
import Derived.Test.YtdhfabjkpffhnaaDoorClashMathC
import Derived.Test.YtdhfabjkpffhnaaDoorGCA
import Derived.Test.YtdhfabjkpffhnaaDoorGCI
namespace Go.Proofs.YtdhfabjkpffhnaaDoor
set_option maxRecDepth 20000
open Go.RowKit ShaMath LeafMath PathMath GrowthMath ClashMath Reg

/-- What Path answers. -/
def pathC (n : Int) (T : List Bs) (i : Nat) (x : Bs) (p : List Hs) : (Bs × Bs) × Nat :=
  if (climbR n (leafH n x) i T.length p).2 ≠ 0 then (([], []), (climbR n (leafH n x) i T.length p).2)
  else if (climbR n (leafH n x) i T.length p).1 ≠ rootT n T then (([], []), 3)
  else if T[i]? = some x then (([], []), 8) else (pathT n T i x p, 0)

theorem climbR_ok {n : Int} {h : Hs} {i m : Nat} {p : List Hs} (he : (climbR n h i m p).2 = 0) : i < m ∧ p.length = sizeP i m ∧ (climbR n h i m p).1 = climbP n i m p h := by
  unfold climbR at he ⊢
  by_cases h1 : m ≤ i
  · rw [if_pos h1] at he; cases he
  · by_cases h2 : p.length < sizeP i m
    · rw [if_neg h1, if_pos h2] at he; cases he
    · by_cases h3 : sizeP i m < p.length
      · rw [if_neg h1, if_neg h2, if_pos h3] at he; cases he
      · rw [if_neg h1, if_neg h2, if_neg h3]
        exact ⟨by omega, by omega, rfl⟩

theorem pathC_found {n : Int} {T : List Bs} {i : Nat} {x : Bs} {p : List Hs} (hp : ∀ y ∈ p, y.length = 32) (h1 : (climbR n (leafH n x) i T.length p).2 = 0) (h2 : (climbR n (leafH n x) i T.length p).1 = rootT n T) (h3 : T[i]? ≠ some x) :
    (pathC n T i x p).2 = 0 ∧ isClash n (pathC n T i x p).1 = true := by
  obtain ⟨a, b, c⟩ := climbR_ok h1
  have e : pathC n T i x p = (pathT n T i x p, 0) := by rw [pathC, if_neg (by simpa using h1), if_neg (by simpa using h2), if_neg h3]
  rw [e]
  refine ⟨rfl, path_clash n T.length T i x p (T[i]'a) rfl (List.getElem?_eq_getElem a) (fun e => h3 (by rw [List.getElem?_eq_getElem a, e])) b hp (by rw [← c]; exact h2)⟩

theorem pathC_clash (n : Int) (T : List Bs) (i : Nat) (x : Bs) (p : List Hs) (hp : ∀ y ∈ p, y.length = 32) : decide ((pathC n T i x p).2 = 0) = isClash n (pathC n T i x p).1 := by
  by_cases h1 : (climbR n (leafH n x) i T.length p).2 = 0
  · by_cases h2 : (climbR n (leafH n x) i T.length p).1 = rootT n T
    · by_cases h3 : T[i]? = some x
      · have e : pathC n T i x p = (([], []), 8) := by rw [pathC, if_neg (by simpa using h1), if_neg (by simpa using h2), if_pos h3]
        rw [e, isClash_none]; rfl
      · obtain ⟨a, b⟩ := pathC_found hp h1 h2 h3
        rw [a, b]; rfl
    · have e : pathC n T i x p = (([], []), 3) := by rw [pathC, if_neg (by simpa using h1), if_pos h2]
      rw [e, isClash_none]; rfl
  · have e : pathC n T i x p = (([], []), (climbR n (leafH n x) i T.length p).2) := by rw [pathC, if_pos h1]
    rw [e, isClash_none]
    exact decide_eq_false h1

/-- What Growth answers. -/
def growC (n : Int) (T : List Bs) (m : Nat) (old : Hs) (p : List Hs) : (Bs × Bs) × Nat :=
  if (climbGR n old m T.length p).2 ≠ 0 then (([], []), (climbGR n old m T.length p).2)
  else if (climbGR n old m T.length p).1.1 ≠ old ∨ (climbGR n old m T.length p).1.2 ≠ rootT n T then (([], []), 3)
  else if old = rootT n (T.take m) then (([], []), 8)
  else (match growT n T m old p true with | some q => (q, 0) | none => (([], []), 8))

theorem climbGR_ok {n : Int} {h : Hs} {m N : Nat} {p : List Hs} (he : (climbGR n h m N p).2 = 0) : 1 ≤ m ∧ m ≤ N ∧ p.length = sizeG m N true ∧ (climbGR n h m N p).1 = showG n m N h p true := by
  unfold climbGR at he ⊢
  by_cases h1 : m = 0 ∨ N < m
  · rw [if_pos h1] at he; cases he
  · have e : growS m N = sizeG m N true := by unfold growS; rw [if_neg h1]
    by_cases h2 : p.length < growS m N
    · rw [if_neg h1, if_pos h2] at he; cases he
    · by_cases h3 : growS m N < p.length
      · rw [if_neg h1, if_neg h2, if_pos h3] at he; cases he
      · rw [if_neg h1, if_neg h2, if_neg h3]
        exact ⟨by omega, by omega, by omega, rfl⟩

theorem growC_found {n : Int} {T : List Bs} {m : Nat} {old : Hs} {p : List Hs} (ho : old.length = 32) (hp : ∀ y ∈ p, y.length = 32) (h1 : (climbGR n old m T.length p).2 = 0) (h2 : (climbGR n old m T.length p).1.1 = old) (h3 : (climbGR n old m T.length p).1.2 = rootT n T) (h4 : old ≠ rootT n (T.take m)) :
    (growC n T m old p).2 = 0 ∧ isClash n (growC n T m old p).1 = true := by
  obtain ⟨a, b, c, d⟩ := climbGR_ok h1
  have hr : newerT n m T.length old p true = rootT n T := by rw [newerT, ← d]; exact h3
  cases hq : growT n T m old p true with
  | none =>
    have := grow_none n T.length T m old p true rfl a b ho c hp hr hq
    rw [← d, h2] at this
    exact absurd this h4
  | some q =>
    have e : growC n T m old p = (q, 0) := by rw [growC, if_neg (by simpa using h1), if_neg (by simp [h2, h3]), if_neg h4, hq]
    rw [e]
    exact ⟨rfl, grow_clash n T.length T m old p true q rfl a b ho c hp hr hq⟩

theorem growC_clash (n : Int) (T : List Bs) (m : Nat) (old : Hs) (p : List Hs) (ho : old.length = 32) (hp : ∀ y ∈ p, y.length = 32) : decide ((growC n T m old p).2 = 0) = isClash n (growC n T m old p).1 := by
  by_cases h1 : (climbGR n old m T.length p).2 = 0
  · by_cases h2 : (climbGR n old m T.length p).1.1 = old ∧ (climbGR n old m T.length p).1.2 = rootT n T
    · by_cases h3 : old = rootT n (T.take m)
      · have e : growC n T m old p = (([], []), 8) := by rw [growC, if_neg (by simpa using h1), if_neg (by simp [h2.1, h2.2]), if_pos h3]
        rw [e, isClash_none]; rfl
      · obtain ⟨a, b⟩ := growC_found ho hp h1 h2.1 h2.2 h3
        rw [a, b]; rfl
    · have e : growC n T m old p = (([], []), 3) := by
        rw [growC, if_neg (by simpa using h1), if_pos]
        by_cases hx : (climbGR n old m T.length p).1.1 = old
        · exact .inr fun hy => h2 ⟨hx, hy⟩
        · exact .inl hx
      rw [e, isClash_none]; rfl
  · have e : growC n T m old p = (([], []), (climbGR n old m T.length p).2) := by rw [growC, if_pos h1]
    rw [e, isClash_none]
    exact decide_eq_false h1
end Go.Proofs.YtdhfabjkpffhnaaDoor

