/- A gauge's bytes, there and back. -/
import Derived.Test.YtboongdoggggoaaGaugeRefGet
import Derived.Test.YtboongdoggggoaaEdgeText
namespace Go.Proofs.Ytboongdoggggoaa
set_option maxRecDepth 20000
open Go.RowKit EdgeMath BinMath

theorem txt_four (a : G) : a.txt 4 = numL a.n ++ (be 8 (canon a.m) ++ (be 8 (canon a.s) ++ (be 8 (canon a.lo) ++ be 8 (canon a.hi)))) := by
  unfold G.txt
  have e : a.fls.take 4 = [a.m, a.s, a.lo, a.hi] := rfl
  rw [e]
  simp

theorem numS_numL (n : Nat) (r : List UInt8) (hn : n < 18446744073709551616) : numS (numL n ++ r) 0 0 = (n, 0, (numL n).length) := by
  unfold numS
  rw [if_neg (by simp), List.drop_zero, pNum_numL n r hn]
  simp

theorem pc_four (a b c d : List UInt8) (ha : a.length = 8) (hb : b.length = 8) (hc : c.length = 8) (hd : d.length = 8) :
    pc (a ++ (b ++ (c ++ d))) 0 = a ∧ pc (a ++ (b ++ (c ++ d))) 1 = b ∧ pc (a ++ (b ++ (c ++ d))) 2 = c ∧ pc (a ++ (b ++ (c ++ d))) 3 = d := by
  unfold pc
  refine ⟨?_, ?_, ?_, ?_⟩ <;> simp [List.take_append, List.drop_append, ha, hb, hc, hd, List.take_of_length_le, List.drop_of_length_le]

/-- What Put lays is the gauge. -/
theorem ggetR_txt (a : G) (ha : a.Ok) : ∃ b, ggetR (a.txt 4) = (0, b) ∧ b.Ok ∧ b.Eqv a := by
  obtain ⟨r, hr⟩ : ∃ r, r = be 8 (canon a.m) ++ (be 8 (canon a.s) ++ (be 8 (canon a.lo) ++ be 8 (canon a.hi))) := ⟨_, rfl⟩
  have hl : r.length = 32 := by rw [hr]; simp only [List.length_append, be_length]
  obtain ⟨p0, p1, p2, p3⟩ := pc_four (be 8 (canon a.m)) (be 8 (canon a.s)) (be 8 (canon a.lo)) (be 8 (canon a.hi)) (be_length ..) (be_length ..) (be_length ..) (be_length ..)
  rw [← hr] at p0 p1 p2 p3
  have g0 : getR (pc r 0) = (canon a.m, 0) := by rw [p0]; exact getR_put a.m ha.m
  have g1 : getR (pc r 1) = (canon a.s, 0) := by rw [p1]; exact getR_put a.s ha.s
  have g2 : getR (pc r 2) = (canon a.lo, 0) := by rw [p2]; exact getR_put a.lo ha.lo
  have g3 : getR (pc r 3) = (canon a.hi, 0) := by rw [p3]; exact getR_put a.hi ha.hi
  have hb : bad r = 0 := bad_none fun j hj => by
    unfold cB
    match j, hj with
    | 0, _ => rw [g0]
    | 1, _ => rw [g1]
    | 2, _ => rw [g2]
    | 3, _ => rw [g3]
  have hp : part a.n r 4 = ⟨a.n, canon a.m, canon a.s, canon a.lo, canon a.hi⟩ := by
    show (⟨a.n, fB r 0, fB r 1, fB r 2, fB r 3⟩ : G) = _
    unfold fB
    rw [g0, g1, g2, g3]
  have hd : (numL a.n ++ r).drop (numL a.n).length = r := by simp
  have hll : (numL a.n ++ r).length - (numL a.n).length = 32 := by rw [List.length_append, hl]; omega
  refine ⟨⟨a.n, canon a.m, canon a.s, canon a.lo, canon a.hi⟩, ?_, ⟨ha.n, canon_lt _ ha.m, canon_lt _ ha.s, canon_lt _ ha.lo, canon_lt _ ha.hi⟩, ⟨rfl, rk_canon _, rk_canon _, rk_canon _, rk_canon _⟩⟩
  rw [txt_four, ← hr]
  unfold ggetR
  rw [numS_numL a.n r ha.n]
  unfold ggetN
  rw [if_neg (by simp), hll, if_neg (by omega), hd, if_neg (by simp [hb]), if_neg (by omega), hp]

theorem pieces (r : List UInt8) (h : r.length = 32) : r = pc r 0 ++ (pc r 1 ++ (pc r 2 ++ pc r 3)) := by
  unfold pc
  have e : ∀ (x y : Nat), x ≤ y → r.drop x = (r.take y).drop x ++ r.drop y := fun x y hxy => by
    have h1 : r.drop x = (r.take y ++ r.drop y).drop x := by rw [List.take_append_drop]
    rw [h1]
    by_cases hx : x ≤ (r.take y).length
    · rw [List.drop_append_of_le_length hx]
    · rw [List.length_take] at hx
      have : x = y ∨ r.length < x := by omega
      rw [List.drop_append]
      have h2 : r.drop y = [] ∨ x - (r.take y).length = 0 := by
        rw [List.length_take]
        rcases Nat.lt_or_ge y r.length with h3 | h3
        · right; omega
        · left; exact List.drop_eq_nil_of_le h3
      rcases h2 with h2 | h2
      · rw [h2]; simp
      · rw [h2]; simp
  have a0 := e 0 8 (by omega)
  have a1 := e 8 16 (by omega)
  have a2 := e 16 24 (by omega)
  have a3 := e 24 32 (by omega)
  rw [List.drop_zero] at a0
  have a4 : r.drop 32 = [] := List.drop_eq_nil_of_le (by omega)
  rw [a4, List.append_nil] at a3
  show r = (r.take 8).drop 0 ++ ((r.take 16).drop 8 ++ ((r.take 24).drop 16 ++ (r.take 32).drop 24))
  rw [← a3, ← a2, ← a1]
  rw [List.drop_zero]
  exact (List.take_append_drop 8 r).symm

theorem ggetR_ok (l : List UInt8) (C : Nat) (B : G) (h : ggetR l = (C, B)) : B.Ok := by
  obtain ⟨n, c, k, hS⟩ : ∃ n c k, numS l 0 0 = (n, c, k) := ⟨_, _, _, rfl⟩
  obtain ⟨hnb, -, -⟩ := numS_zero hS
  unfold ggetR at h
  rw [hS] at h
  have h : ggetN l n c k = (C, B) := h
  have hz : G.zero.Ok := ⟨by decide, by decide, by decide, by decide, by decide⟩
  unfold ggetN at h
  repeat' split at h
  all_goals obtain ⟨-, rfl⟩ := Prod.mk.inj h
  all_goals first
    | exact hz
    | exact ⟨hnb, fB_lt _ _, fB_lt _ _, fB_lt _ _, fB_lt _ _⟩

/-- Bytes that are a gauge are its bytes. -/
theorem ggetR_back (l : List UInt8) (B : G) (h : ggetR l = (0, B)) : B.txt 4 = l := by
  obtain ⟨n, c, k, hS⟩ : ∃ n c k, numS l 0 0 = (n, c, k) := ⟨_, _, _, rfl⟩
  obtain ⟨hnb, hback, -⟩ := numS_zero hS
  unfold ggetR at h
  rw [hS] at h
  have h : ggetN l n c k = (0, B) := h
  unfold ggetN at h
  split at h
  · rename_i h1
    exact absurd (Prod.mk.inj h).1 h1
  · rename_i h1
    have hc : c = 0 := by omega
    split at h
    · exact absurd (Prod.mk.inj h).1 (by decide)
    · rename_i h2
      split at h
      · rename_i h3
        exact absurd (Prod.mk.inj h).1 h3
      · rename_i h3
        split at h
        · exact absurd (Prod.mk.inj h).1 (by decide)
        · rename_i h4
          obtain ⟨-, rfl⟩ := Prod.mk.inj h
          obtain ⟨r, hr⟩ : ∃ r, r = l.drop k := ⟨_, rfl⟩
          have hl : r.length = 32 := by rw [hr, List.length_drop]; omega
          rw [← hr] at h3 ⊢
          have hz : ∀ j, j < 4 → cB r j = 0 := by
            unfold bad at h3
            intro j hj
            have h3 : ¬ (if cB r 0 ≠ 0 then cB r 0 else if cB r 1 ≠ 0 then cB r 1 else if cB r 2 ≠ 0 then cB r 2 else cB r 3) ≠ 0 := h3
            repeat' split at h3
            · contradiction
            · contradiction
            · contradiction
            · match j, hj with
              | 0, _ => omega
              | 1, _ => omega
              | 2, _ => omega
              | 3, _ => omega
          have hp : ∀ j, j < 4 → be 8 (canon (fB r j)) = pc r j := fun j hj => getR_zero _ _ (by
            have := hz j hj
            unfold cB at this
            unfold fB
            rw [← this])
          rw [txt_four]
          show numL n ++ (be 8 (canon (fB r 0)) ++ (be 8 (canon (fB r 1)) ++ (be 8 (canon (fB r 2)) ++ be 8 (canon (fB r 3))))) = l
          rw [hp 0 (by omega), hp 1 (by omega), hp 2 (by omega), hp 3 (by omega), ← pieces r hl, hback hc, hr]
          exact List.take_append_drop k l

end Go.Proofs.Ytboongdoggggoaa
