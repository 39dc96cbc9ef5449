/- Joined: GrowthMath, GrowthRefSize, GrowthRefProve. -/
import Derived.Test.YtdhfabjkpffhnaaDoorLeafMath
import Derived.Test.YtdhfabjkpffhnaaDoorGCA
import Derived.Test.YtdhfabjkpffhnaaDoorGCL
/- Plain facts on proofs that one tree is the beginning of another. No program is named here. -/
namespace Go.Proofs.YtdhfabjkpffhnaaDoor.GrowthMath
set_option maxRecDepth 20000
open ShaMath LeafMath

/-- How many hashes the part of m in n leaves has. -/
def sizeG (m n : Nat) (old : Bool) : Nat :=
  if _h : m < n ∧ 2 ≤ n then (if m ≤ splitN n then sizeG m (splitN n) old + 1 else sizeG (m - splitN n) (n - splitN n) false + 1)
  else if old then 0 else 1
termination_by n
decreasing_by
  all_goals
    have := splitN_lt (n := n) (by omega)
    have := splitN_pos n
    omega

theorem sizeG_all (m : Nat) (old : Bool) : sizeG m m old = if old then 0 else 1 := by rw [sizeG, dif_neg (by omega)]
theorem sizeG_left {m n : Nat} (old : Bool) (hm : m < n) (h2 : 2 ≤ n) (hk : m ≤ splitN n) : sizeG m n old = sizeG m (splitN n) old + 1 := by rw [sizeG, dif_pos ⟨hm, h2⟩, if_pos hk]
theorem sizeG_right {m n : Nat} (old : Bool) (hm : m < n) (h2 : 2 ≤ n) (hk : ¬ m ≤ splitN n) : sizeG m n old = sizeG (m - splitN n) (n - splitN n) false + 1 := by rw [sizeG, dif_pos ⟨hm, h2⟩, if_neg hk]

/-- What a part of the right length shows: the old root, the new one. -/
def showG (w : Int) (m n : Nat) (root : Hs) (p : List Hs) (old : Bool) : Hs × Hs :=
  if _h : m < n ∧ 2 ≤ n then
    (if m ≤ splitN n then
      ((showG w m (splitN n) root p.dropLast old).1, nodeH w (showG w m (splitN n) root p.dropLast old).2 (p.getLastD []))
     else
      (nodeH w (p.getLastD []) (showG w (m - splitN n) (n - splitN n) root p.dropLast false).1, nodeH w (p.getLastD []) (showG w (m - splitN n) (n - splitN n) root p.dropLast false).2))
  else if old then (root, root) else (p.headD [], p.headD [])
termination_by n
decreasing_by
  all_goals
    have := splitN_lt (n := n) (by omega)
    have := splitN_pos n
    omega

theorem showG_all (w : Int) (m : Nat) (root : Hs) (p : List Hs) (old : Bool) : showG w m m root p old = if old then (root, root) else (p.headD [], p.headD []) := by rw [showG, dif_neg (by omega)]
theorem showG_left (w : Int) {m n : Nat} (root : Hs) (p : List Hs) (old : Bool) (hm : m < n) (h2 : 2 ≤ n) (hk : m ≤ splitN n) :
    showG w m n root p old = ((showG w m (splitN n) root p.dropLast old).1, nodeH w (showG w m (splitN n) root p.dropLast old).2 (p.getLastD [])) := by rw [showG, dif_pos ⟨hm, h2⟩, if_pos hk]
theorem showG_right (w : Int) {m n : Nat} (root : Hs) (p : List Hs) (old : Bool) (hm : m < n) (h2 : 2 ≤ n) (hk : ¬ m ≤ splitN n) :
    showG w m n root p old = (nodeH w (p.getLastD []) (showG w (m - splitN n) (n - splitN n) root p.dropLast false).1, nodeH w (p.getLastD []) (showG w (m - splitN n) (n - splitN n) root p.dropLast false).2) := by rw [showG, dif_pos ⟨hm, h2⟩, if_neg hk]

theorem showG_length (w : Int) : ∀ (n m : Nat) (root : Hs) (p : List Hs) (old : Bool), root.length = 32 → (∀ x ∈ p, x.length = 32) → m ≤ n → p.length = sizeG m n old → (showG w m n root p old).1.length = 32 ∧ (showG w m n root p old).2.length = 32 := by
  intro n
  induction n using Nat.strongRecOn with
  | ind n ih =>
    intro m root p old hr hp hmn hl
    by_cases hc : m < n ∧ 2 ≤ n
    · obtain ⟨hm, h2⟩ := hc
      have hlt := splitN_lt h2
      have hpo := splitN_pos n
      have hd : ∀ x ∈ p.dropLast, x.length = 32 := fun x hx => hp x (List.dropLast_subset _ hx)
      by_cases hk : m ≤ splitN n
      · rw [sizeG_left old hm h2 hk] at hl
        rw [showG_left w root p old hm h2 hk]
        exact ⟨(ih (splitN n) hlt m root p.dropLast old hr hd hk (by rw [List.length_dropLast]; omega)).1, nodeH_length _ _ _⟩
      · rw [showG_right w root p old hm h2 hk]
        exact ⟨nodeH_length _ _ _, nodeH_length _ _ _⟩
    · rw [showG, dif_neg hc]
      rw [sizeG, dif_neg hc] at hl
      cases old with
      | true => exact ⟨hr, hr⟩
      | false =>
        match p with
        | [] => simp at hl
        | x :: _ => exact ⟨hp x (by simp), hp x (by simp)⟩

end Go.Proofs.YtdhfabjkpffhnaaDoor.GrowthMath

/- Layer 16's reference: the sizes of parts, and Size. -/
namespace Go.Proofs.YtdhfabjkpffhnaaDoor
set_option maxRecDepth 20000
open Go.RowKit ShaMath LeafMath PathMath GrowthMath Reg

theorem sizeG_le : ∀ (k n m : Nat) (old : Bool), m ≤ n → n ≤ 2 ^ k → sizeG m n old ≤ k + 1
  | 0, n, m, old, hm, hn => by
    rw [sizeG, dif_neg (by omega)]
    split <;> omega
  | k + 1, n, m, old, hm, hn => by
    by_cases hc : m < n ∧ 2 ≤ n
    · have hlt := splitN_lt hc.2
      have hge := splitN_ge hc.2
      have hp := splitN_pos n
      have hk : splitN n ≤ 2 ^ k := by
        obtain ⟨j, hj⟩ := splitN_pow n
        rw [hj] at hlt ⊢
        refine Nat.pow_le_pow_right (by decide) ?_
        refine Decidable.byContradiction fun h => ?_
        have := Nat.pow_le_pow_right (n := 2) (by decide) (show k + 1 ≤ j by omega)
        omega
      by_cases hs : m ≤ splitN n
      · rw [sizeG_left old hc.1 hc.2 hs]
        have := sizeG_le k (splitN n) m old hs hk
        omega
      · rw [sizeG_right old hc.1 hc.2 hs]
        have := sizeG_le k (n - splitN n) (m - splitN n) false (by omega) (by rw [Nat.pow_succ] at hn; omega)
        omega
    · rw [sizeG, dif_neg hc]
      split <;> omega
theorem sizeG_65 (m n : Nat) (old : Bool) (hm : m ≤ n) (hn : n < 18446744073709551616) : sizeG m n old ≤ 65 := sizeG_le 64 n m old hm (by omega)

theorem refsizeG_any : ∀ (n m : Nat) (old : Bool) (w : World), 1 ≤ m → m ≤ n → n < 18446744073709551616 →
    Calls Tryd.prog 100 #[.int .u64 (m : Int), .int .u64 (n : Int), .bool old] w fun e w' => e = .returned (.int .i64 (sizeG m n old : Int)) ∧ w' = w := by
  intro n
  induction n using Nat.strongRecOn with
  | ind n ih =>
    intro m old w h1 hmn hn
    by_cases he : m = n
    · subst he
      rw [sizeG_all]
      clear ih
      have heq : ((m : Int) == (m : Int)) = true := by simp
      cases old
      · go_enter Tryd.func100, Tryd.ntmps100
        go_wp2
        go_ret
        exact ⟨rfl, rfl⟩
      · go_enter Tryd.func100, Tryd.ntmps100
        go_wp2
        go_ret
        exact ⟨rfl, rfl⟩
    · have hlt0 : m < n := by omega
      have h2 : 2 ≤ n := by omega
      have hlt := splitN_lt h2
      have hp := splitN_pos n
      have hb := sizeG_65 m n old hmn hn
      obtain ⟨k, hk⟩ : ∃ k, k = splitN n := ⟨_, rfl⟩
      have HSplit := Lib.hid (refsplit15_any n w (by omega) hn)
      rw [← hk] at HSplit hlt hp
      have hne : ¬ (m : Int) = (n : Int) := by omega
      by_cases hik : m ≤ k
      · have hs := sizeG_left old hlt0 h2 (by rw [← hk]; exact hik)
        rw [← hk] at hs
        have HR := Lib.hid (ih k hlt m old w h1 hik (by omega))
        obtain ⟨z, hz⟩ : ∃ z, z = sizeG m k old := ⟨_, rfl⟩
        rw [← hz] at HR hs
        have hz1 : (z : Int) + 1 = (sizeG m n old : Int) := by omega
        obtain ⟨y, hy⟩ : ∃ y, y = sizeG m n old := ⟨_, rfl⟩
        rw [← hy] at hz1 hb ⊢
        clear ih hs hk hz hy
        go_enter Tryd.func100, Tryd.ntmps100
        go_wp2_with fail
        refine HSplit.out.mono ?_
        rintro e w2 ⟨rfl, rfl⟩
        go_wp2_with fail
        refine HR.out.mono ?_
        rintro e w2 ⟨rfl, rfl⟩
        go_wp2
        go_ret
        exact ⟨rfl, rfl⟩
      · have hs := sizeG_right old hlt0 h2 (by rw [← hk]; exact hik)
        rw [← hk] at hs
        obtain ⟨m', hm'⟩ : ∃ m' : Nat, (m : Int) - (k : Int) = (m' : Int) := ⟨m - k, by omega⟩
        obtain ⟨n', hn'⟩ : ∃ n' : Nat, (n : Int) - (k : Int) = (n' : Int) := ⟨n - k, by omega⟩
        have ei : m - k = m' := by omega
        have en : n - k = n' := by omega
        rw [ei, en] at hs
        have hm'b : m' < 18446744073709551616 := by omega
        have hn'b : n' < 18446744073709551616 := by omega
        have HR := Lib.hid (ih n' (by omega) m' false w (by omega) (by omega) hn'b)
        obtain ⟨z, hz⟩ : ∃ z, z = sizeG m' n' false := ⟨_, rfl⟩
        rw [← hz] at HR hs
        have hz1 : (z : Int) + 1 = (sizeG m n old : Int) := by omega
        obtain ⟨y, hy⟩ : ∃ y, y = sizeG m n old := ⟨_, rfl⟩
        rw [← hy] at hz1 hb ⊢
        clear ih hs hk hz hy ei en
        go_enter Tryd.func100, Tryd.ntmps100
        go_wp2_with fail
        refine HSplit.out.mono ?_
        rintro e w2 ⟨rfl, rfl⟩
        go_wp2_with fail
        refine HR.out.mono ?_
        rintro e w2 ⟨rfl, rfl⟩
        go_wp2
        go_ret
        exact ⟨rfl, rfl⟩

/-- What Size answers. -/
def growS (m n : Nat) : Nat := if m = 0 ∨ n < m then 0 else sizeG m n true

theorem refSize16_any (m n : Nat) (w : World) (hm : m < 18446744073709551616) (hn : n < 18446744073709551616) :
    Calls Tryd.prog 90 #[.int .u64 (m : Int), .int .u64 (n : Int)] w fun e w' => e = .returned (.int .i64 (growS m n : Int)) ∧ w' = w := by
  by_cases h0 : m = 0
  · subst h0
    rw [growS, if_pos (.inl rfl)]
    go_enter Tryd.func90, Tryd.ntmps90
    go_wp2
    go_ret
    exact ⟨rfl, rfl⟩
  · have hz : ((m : Int) == 0) = false := by simpa using h0
    by_cases hc : n < m
    · rw [growS, if_pos (.inr hc)]
      have hgt : decide ((m : Int) > (n : Int)) = true := decide_eq_true (by omega)
      go_enter Tryd.func90, Tryd.ntmps90
      go_wp2
      go_ret
      exact ⟨rfl, rfl⟩
    · rw [growS, if_neg (by omega)]
      have hgt : decide ((m : Int) > (n : Int)) = false := decide_eq_false (by omega)
      have HR := Lib.hid (refsizeG_any n m true w (by omega) (by omega) hn)
      go_enter Tryd.func90, Tryd.ntmps90
      go_wp2_with fail
      refine HR.out.mono ?_
      rintro e w2 ⟨rfl, rfl⟩
      go_wp2
      go_ret
      exact ⟨rfl, rfl⟩
end Go.Proofs.YtdhfabjkpffhnaaDoor

/- Layer 16's reference: part and Prove. -/
namespace Go.Proofs.YtdhfabjkpffhnaaDoor
set_option maxRecDepth 20000
open Go.RowKit ShaMath LeafMath PathMath GrowthMath Reg

theorem sliced_zero3 (a : Option Addr) (k c : Nat) : sliced a 0 k c 32 = .slice a k c := by
  unfold sliced
  have : a.map (fun x : Addr => x.add (0 * 32)) = a := by cases a <;> simp [Addr.add]
  rw [this]
  simp

end Go.Proofs.YtdhfabjkpffhnaaDoor

