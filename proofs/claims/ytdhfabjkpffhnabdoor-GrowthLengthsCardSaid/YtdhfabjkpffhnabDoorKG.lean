/- Joined: GrowthMath, GrowthRefSize, GrowthRefProve. -/
import Derived.Test.YtdhfabjkpffhnabDoorLeafMath
import Derived.Test.YtdhfabjkpffhnabDoorKA
import Derived.Test.YtdhfabjkpffhnabDoorLate
/- Plain facts on proofs that one tree is the beginning of another. No program is named here. -/
namespace Go.Proofs.YtdhfabjkpffhnabDoor.GrowthMath
set_option maxRecDepth 20000
open ShaMath LeafMath

/-- How many hashes the part of m in n leaves has. -/
def sizeG (m n : Nat) (old : Bool) : Nat :=
  if _h : m < n ∧ 2 ≤ n then (if m ≤ splitN n then sizeG m (splitN n) old + 1 else sizeG (m - splitN n) (n - splitN n) false + 1)
  else if old then 0 else 1
termination_by n
decreasing_by
  all_goals
    have := splitN_lt (n := n) (by omega)
    have := splitN_pos n
    omega

theorem sizeG_all (m : Nat) (old : Bool) : sizeG m m old = if old then 0 else 1 := by rw [sizeG, dif_neg (by omega)]
theorem sizeG_left {m n : Nat} (old : Bool) (hm : m < n) (h2 : 2 ≤ n) (hk : m ≤ splitN n) : sizeG m n old = sizeG m (splitN n) old + 1 := by rw [sizeG, dif_pos ⟨hm, h2⟩, if_pos hk]
theorem sizeG_right {m n : Nat} (old : Bool) (hm : m < n) (h2 : 2 ≤ n) (hk : ¬ m ≤ splitN n) : sizeG m n old = sizeG (m - splitN n) (n - splitN n) false + 1 := by rw [sizeG, dif_pos ⟨hm, h2⟩, if_neg hk]

/-- The part of m in leaves. -/
def partG (w : Int) (hs : List Hs) (m : Nat) (old : Bool) : List Hs :=
  if _h : m < hs.length ∧ 2 ≤ hs.length then
    (if m ≤ splitN hs.length then partG w (hs.take (splitN hs.length)) m old ++ [rootH w (hs.drop (splitN hs.length))]
     else partG w (hs.drop (splitN hs.length)) (m - splitN hs.length) false ++ [rootH w (hs.take (splitN hs.length))])
  else if old then [] else [rootH w hs]
termination_by hs.length
decreasing_by
  all_goals
    have := splitN_lt (n := hs.length) (by omega)
    have := splitN_pos hs.length
    simp
    omega

theorem partG_all (w : Int) (hs : List Hs) (m : Nat) (old : Bool) (h : hs.length ≤ m) : partG w hs m old = if old then [] else [rootH w hs] := by rw [partG, dif_neg (by omega)]
theorem partG_left (w : Int) (hs : List Hs) (m : Nat) (old : Bool) (hm : m < hs.length) (h2 : 2 ≤ hs.length) (hk : m ≤ splitN hs.length) : partG w hs m old = partG w (hs.take (splitN hs.length)) m old ++ [rootH w (hs.drop (splitN hs.length))] := by rw [partG, dif_pos ⟨hm, h2⟩, if_pos hk]
theorem partG_right (w : Int) (hs : List Hs) (m : Nat) (old : Bool) (hm : m < hs.length) (h2 : 2 ≤ hs.length) (hk : ¬ m ≤ splitN hs.length) : partG w hs m old = partG w (hs.drop (splitN hs.length)) (m - splitN hs.length) false ++ [rootH w (hs.take (splitN hs.length))] := by rw [partG, dif_pos ⟨hm, h2⟩, if_neg hk]

theorem partG_length (w : Int) : ∀ (n : Nat) (hs : List Hs) (m : Nat) (old : Bool), hs.length = n → m ≤ n → (partG w hs m old).length = sizeG m n old := by
  intro n
  induction n using Nat.strongRecOn with
  | ind n ih =>
    intro hs m old hn hm
    subst hn
    by_cases hc : m < hs.length ∧ 2 ≤ hs.length
    · obtain ⟨hm, h2⟩ := hc
      have hlt := splitN_lt h2
      have hp := splitN_pos hs.length
      by_cases hk : m ≤ splitN hs.length
      · rw [partG_left w hs m old hm h2 hk, sizeG_left old hm h2 hk, List.length_append, ih (splitN hs.length) hlt _ m old (by rw [List.length_take]; omega) hk]
        rfl
      · rw [partG_right w hs m old hm h2 hk, sizeG_right old hm h2 hk, List.length_append, ih (hs.length - splitN hs.length) (by omega) _ _ false (by rw [List.length_drop]) (by omega)]
        rfl
    · rw [partG, dif_neg hc, sizeG, dif_neg hc]
      split <;> rfl

theorem partG_32 (w : Int) : ∀ (n : Nat) (hs : List Hs) (m : Nat) (old : Bool), hs.length = n → (∀ x ∈ hs, x.length = 32) → ∀ x ∈ partG w hs m old, x.length = 32 := by
  intro n
  induction n using Nat.strongRecOn with
  | ind n ih =>
    intro hs m old hn h x hx
    subst hn
    by_cases hc : m < hs.length ∧ 2 ≤ hs.length
    · obtain ⟨hm, h2⟩ := hc
      have hlt := splitN_lt h2
      have hp := splitN_pos hs.length
      by_cases hk : m ≤ splitN hs.length
      · rw [partG_left w hs m old hm h2 hk] at hx
        rcases List.mem_append.1 hx with hx | hx
        · exact ih (splitN hs.length) hlt _ m old (by rw [List.length_take]; omega) (fun y hy => h y (List.mem_of_mem_take hy)) x hx
        · rw [List.mem_singleton.1 hx]
          exact rootH_length w _ fun y hy => h y (List.mem_of_mem_drop hy)
      · rw [partG_right w hs m old hm h2 hk] at hx
        rcases List.mem_append.1 hx with hx | hx
        · exact ih (hs.length - splitN hs.length) (by omega) _ _ false (by rw [List.length_drop]) (fun y hy => h y (List.mem_of_mem_drop hy)) x hx
        · rw [List.mem_singleton.1 hx]
          exact rootH_length w _ fun y hy => h y (List.mem_of_mem_take hy)
    · rw [partG, dif_neg hc] at hx
      split at hx
      · cases hx
      · rw [List.mem_singleton.1 hx]
        exact rootH_length w _ h

/-- What a part of the right length shows: the old root, the new one. -/
def showG (w : Int) (m n : Nat) (root : Hs) (p : List Hs) (old : Bool) : Hs × Hs :=
  if _h : m < n ∧ 2 ≤ n then
    (if m ≤ splitN n then
      ((showG w m (splitN n) root p.dropLast old).1, nodeH w (showG w m (splitN n) root p.dropLast old).2 (p.getLastD []))
     else
      (nodeH w (p.getLastD []) (showG w (m - splitN n) (n - splitN n) root p.dropLast false).1, nodeH w (p.getLastD []) (showG w (m - splitN n) (n - splitN n) root p.dropLast false).2))
  else if old then (root, root) else (p.headD [], p.headD [])
termination_by n
decreasing_by
  all_goals
    have := splitN_lt (n := n) (by omega)
    have := splitN_pos n
    omega

theorem showG_all (w : Int) (m : Nat) (root : Hs) (p : List Hs) (old : Bool) : showG w m m root p old = if old then (root, root) else (p.headD [], p.headD []) := by rw [showG, dif_neg (by omega)]
theorem showG_left (w : Int) {m n : Nat} (root : Hs) (p : List Hs) (old : Bool) (hm : m < n) (h2 : 2 ≤ n) (hk : m ≤ splitN n) :
    showG w m n root p old = ((showG w m (splitN n) root p.dropLast old).1, nodeH w (showG w m (splitN n) root p.dropLast old).2 (p.getLastD [])) := by rw [showG, dif_pos ⟨hm, h2⟩, if_pos hk]
theorem showG_right (w : Int) {m n : Nat} (root : Hs) (p : List Hs) (old : Bool) (hm : m < n) (h2 : 2 ≤ n) (hk : ¬ m ≤ splitN n) :
    showG w m n root p old = (nodeH w (p.getLastD []) (showG w (m - splitN n) (n - splitN n) root p.dropLast false).1, nodeH w (p.getLastD []) (showG w (m - splitN n) (n - splitN n) root p.dropLast false).2) := by rw [showG, dif_pos ⟨hm, h2⟩, if_neg hk]

theorem showG_length (w : Int) : ∀ (n m : Nat) (root : Hs) (p : List Hs) (old : Bool), root.length = 32 → (∀ x ∈ p, x.length = 32) → m ≤ n → p.length = sizeG m n old → (showG w m n root p old).1.length = 32 ∧ (showG w m n root p old).2.length = 32 := by
  intro n
  induction n using Nat.strongRecOn with
  | ind n ih =>
    intro m root p old hr hp hmn hl
    by_cases hc : m < n ∧ 2 ≤ n
    · obtain ⟨hm, h2⟩ := hc
      have hlt := splitN_lt h2
      have hpo := splitN_pos n
      have hd : ∀ x ∈ p.dropLast, x.length = 32 := fun x hx => hp x (List.dropLast_subset _ hx)
      by_cases hk : m ≤ splitN n
      · rw [sizeG_left old hm h2 hk] at hl
        rw [showG_left w root p old hm h2 hk]
        exact ⟨(ih (splitN n) hlt m root p.dropLast old hr hd hk (by rw [List.length_dropLast]; omega)).1, nodeH_length _ _ _⟩
      · rw [showG_right w root p old hm h2 hk]
        exact ⟨nodeH_length _ _ _, nodeH_length _ _ _⟩
    · rw [showG, dif_neg hc]
      rw [sizeG, dif_neg hc] at hl
      cases old with
      | true => exact ⟨hr, hr⟩
      | false =>
        match p with
        | [] => simp at hl
        | x :: _ => exact ⟨hp x (by simp), hp x (by simp)⟩

/-- What is proved is shown. -/
theorem show_part (w : Int) : ∀ (n : Nat) (hs : List Hs) (m : Nat) (root : Hs) (old : Bool), hs.length = n → 1 ≤ m → m ≤ n → (old = true → root = rootH w (hs.take m)) →
    showG w m n root (partG w hs m old) old = (rootH w (hs.take m), rootH w hs) := by
  intro n
  induction n using Nat.strongRecOn with
  | ind n ih =>
    intro hs m root old hn h1 hm hr
    subst hn
    by_cases hc : m < hs.length
    · have h2 : 2 ≤ hs.length := by omega
      have hlt := splitN_lt h2
      have hge := splitN_ge h2
      have hp := splitN_pos hs.length
      by_cases hk : m ≤ splitN hs.length
      · rw [partG_left w hs m old hc h2 hk, showG_left w _ _ old hc h2 hk, List.dropLast_concat]
        have e := ih (splitN hs.length) hlt (hs.take (splitN hs.length)) m root old (by rw [List.length_take]; omega) h1 hk (by rw [List.take_take, show min m (splitN hs.length) = m by omega]; exact hr)
        rw [e, List.take_take, show min m (splitN hs.length) = m by omega, rootH_more w hs h2]
        simp
      · rw [partG_right w hs m old hc h2 hk, showG_right w _ _ old hc h2 hk, List.dropLast_concat]
        have e := ih (hs.length - splitN hs.length) (by omega) (hs.drop (splitN hs.length)) (m - splitN hs.length) root false (by rw [List.length_drop]) (by omega) (by omega) (fun h => by cases h)
        rw [e, rootH_more w hs h2]
        have hl : (hs.take m).length = m := by rw [List.length_take]; omega
        obtain ⟨j, hj⟩ := splitN_pow hs.length
        have hs2 : splitN m = splitN hs.length := by rw [hj]; exact splitN_is (by omega) (by omega)
        rw [rootH_more w (hs.take m) (by omega), hl, hs2, List.take_take, show min (splitN hs.length) m = splitN hs.length by omega, List.drop_take]
        simp
    · obtain rfl : m = hs.length := by omega
      rw [partG_all w hs _ old (Nat.le_refl _), showG_all, List.take_length]
      cases old with
      | true => have e := hr rfl; rw [List.take_length] at e; rw [e]; rfl
      | false => rfl
end Go.Proofs.YtdhfabjkpffhnabDoor.GrowthMath

/- Layer 16's reference: the sizes of parts, and Size. -/
namespace Go.Proofs.YtdhfabjkpffhnabDoor
set_option maxRecDepth 20000
open Go.RowKit ShaMath LeafMath PathMath GrowthMath Reg

theorem sizeG_le : ∀ (k n m : Nat) (old : Bool), m ≤ n → n ≤ 2 ^ k → sizeG m n old ≤ k + 1
  | 0, n, m, old, hm, hn => by
    rw [sizeG, dif_neg (by omega)]
    split <;> omega
  | k + 1, n, m, old, hm, hn => by
    by_cases hc : m < n ∧ 2 ≤ n
    · have hlt := splitN_lt hc.2
      have hge := splitN_ge hc.2
      have hp := splitN_pos n
      have hk : splitN n ≤ 2 ^ k := by
        obtain ⟨j, hj⟩ := splitN_pow n
        rw [hj] at hlt ⊢
        refine Nat.pow_le_pow_right (by decide) ?_
        refine Decidable.byContradiction fun h => ?_
        have := Nat.pow_le_pow_right (n := 2) (by decide) (show k + 1 ≤ j by omega)
        omega
      by_cases hs : m ≤ splitN n
      · rw [sizeG_left old hc.1 hc.2 hs]
        have := sizeG_le k (splitN n) m old hs hk
        omega
      · rw [sizeG_right old hc.1 hc.2 hs]
        have := sizeG_le k (n - splitN n) (m - splitN n) false (by omega) (by rw [Nat.pow_succ] at hn; omega)
        omega
    · rw [sizeG, dif_neg hc]
      split <;> omega
theorem sizeG_65 (m n : Nat) (old : Bool) (hm : m ≤ n) (hn : n < 18446744073709551616) : sizeG m n old ≤ 65 := sizeG_le 64 n m old hm (by omega)

theorem refsizeG_any : ∀ (n m : Nat) (old : Bool) (w : World), 1 ≤ m → m ≤ n → n < 18446744073709551616 →
    Calls Tryd.prog 49 #[.int .u64 (m : Int), .int .u64 (n : Int), .bool old] w fun e w' => e = .returned (.int .i64 (sizeG m n old : Int)) ∧ w' = w := by
  intro n
  induction n using Nat.strongRecOn with
  | ind n ih =>
    intro m old w h1 hmn hn
    by_cases he : m = n
    · subst he
      rw [sizeG_all]
      clear ih
      have heq : ((m : Int) == (m : Int)) = true := by simp
      cases old
      · go_enter Tryd.func49, Tryd.ntmps49
        go_wp2
        go_ret
        exact ⟨rfl, rfl⟩
      · go_enter Tryd.func49, Tryd.ntmps49
        go_wp2
        go_ret
        exact ⟨rfl, rfl⟩
    · have hlt0 : m < n := by omega
      have h2 : 2 ≤ n := by omega
      have hlt := splitN_lt h2
      have hp := splitN_pos n
      have hb := sizeG_65 m n old hmn hn
      obtain ⟨k, hk⟩ : ∃ k, k = splitN n := ⟨_, rfl⟩
      have HSplit := Lib.hid (refsplit15_any n w (by omega) hn)
      rw [← hk] at HSplit hlt hp
      have hne : ¬ (m : Int) = (n : Int) := by omega
      by_cases hik : m ≤ k
      · have hs := sizeG_left old hlt0 h2 (by rw [← hk]; exact hik)
        rw [← hk] at hs
        have HR := Lib.hid (ih k hlt m old w h1 hik (by omega))
        obtain ⟨z, hz⟩ : ∃ z, z = sizeG m k old := ⟨_, rfl⟩
        rw [← hz] at HR hs
        have hz1 : (z : Int) + 1 = (sizeG m n old : Int) := by omega
        obtain ⟨y, hy⟩ : ∃ y, y = sizeG m n old := ⟨_, rfl⟩
        rw [← hy] at hz1 hb ⊢
        clear ih hs hk hz hy
        go_enter Tryd.func49, Tryd.ntmps49
        go_wp2_with fail
        refine HSplit.out.mono ?_
        rintro e w2 ⟨rfl, rfl⟩
        go_wp2_with fail
        refine HR.out.mono ?_
        rintro e w2 ⟨rfl, rfl⟩
        go_wp2
        go_ret
        exact ⟨rfl, rfl⟩
      · have hs := sizeG_right old hlt0 h2 (by rw [← hk]; exact hik)
        rw [← hk] at hs
        obtain ⟨m', hm'⟩ : ∃ m' : Nat, (m : Int) - (k : Int) = (m' : Int) := ⟨m - k, by omega⟩
        obtain ⟨n', hn'⟩ : ∃ n' : Nat, (n : Int) - (k : Int) = (n' : Int) := ⟨n - k, by omega⟩
        have ei : m - k = m' := by omega
        have en : n - k = n' := by omega
        rw [ei, en] at hs
        have hm'b : m' < 18446744073709551616 := by omega
        have hn'b : n' < 18446744073709551616 := by omega
        have HR := Lib.hid (ih n' (by omega) m' false w (by omega) (by omega) hn'b)
        obtain ⟨z, hz⟩ : ∃ z, z = sizeG m' n' false := ⟨_, rfl⟩
        rw [← hz] at HR hs
        have hz1 : (z : Int) + 1 = (sizeG m n old : Int) := by omega
        obtain ⟨y, hy⟩ : ∃ y, y = sizeG m n old := ⟨_, rfl⟩
        rw [← hy] at hz1 hb ⊢
        clear ih hs hk hz hy ei en
        go_enter Tryd.func49, Tryd.ntmps49
        go_wp2_with fail
        refine HSplit.out.mono ?_
        rintro e w2 ⟨rfl, rfl⟩
        go_wp2_with fail
        refine HR.out.mono ?_
        rintro e w2 ⟨rfl, rfl⟩
        go_wp2
        go_ret
        exact ⟨rfl, rfl⟩

/-- What Size answers. -/
def growS (m n : Nat) : Nat := if m = 0 ∨ n < m then 0 else sizeG m n true

theorem refSize16_any (m n : Nat) (w : World) (hm : m < 18446744073709551616) (hn : n < 18446744073709551616) :
    Calls Tryd.prog 30 #[.int .u64 (m : Int), .int .u64 (n : Int)] w fun e w' => e = .returned (.int .i64 (growS m n : Int)) ∧ w' = w := by
  by_cases h0 : m = 0
  · subst h0
    rw [growS, if_pos (.inl rfl)]
    go_enter Tryd.func30, Tryd.ntmps30
    go_wp2
    go_ret
    exact ⟨rfl, rfl⟩
  · have hz : ((m : Int) == 0) = false := by simpa using h0
    by_cases hc : n < m
    · rw [growS, if_pos (.inr hc)]
      have hgt : decide ((m : Int) > (n : Int)) = true := decide_eq_true (by omega)
      go_enter Tryd.func30, Tryd.ntmps30
      go_wp2
      go_ret
      exact ⟨rfl, rfl⟩
    · rw [growS, if_neg (by omega)]
      have hgt : decide ((m : Int) > (n : Int)) = false := decide_eq_false (by omega)
      have HR := Lib.hid (refsizeG_any n m true w (by omega) (by omega) hn)
      go_enter Tryd.func30, Tryd.ntmps30
      go_wp2_with fail
      refine HR.out.mono ?_
      rintro e w2 ⟨rfl, rfl⟩
      go_wp2
      go_ret
      exact ⟨rfl, rfl⟩
end Go.Proofs.YtdhfabjkpffhnabDoor

/- Layer 16's reference: part and Prove. -/
namespace Go.Proofs.YtdhfabjkpffhnabDoor
set_option maxRecDepth 20000
open Go.RowKit ShaMath LeafMath PathMath GrowthMath Reg

theorem sliced_zero3 (a : Option Addr) (k c : Nat) : sliced a 0 k c 32 = .slice a k c := by
  unfold sliced
  have : a.map (fun x : Addr => x.add (0 * 32)) = a := by cases a <;> simp [Addr.add]
  rw [this]
  simp

theorem ohs_new (W : World) (B : Nat) (x : Hs) (hx : x.length = 32) (hB : B ≤ W.heap.size) : OHs (W.alloc (.cells (bs x) 30)) B (.slice (some ⟨W.heap.size, 0, none⟩) 1 1) [x] := by
  have hs : (bs x).size = 1 * 32 := by rw [bs_size, hx]
  refine ⟨All32.one hx, by simp [hcells, hcs, hx], .inr ⟨W.heap.size, 1, bs x, rfl, hB, heap_alloc_new W _, Nat.le_refl _, by unfold maxLen; omega, hs, ?_⟩⟩
  rw [List.take_of_length_le (by rw [Array.length_toList, hs]; simp)]
  simp [hcells, hcs, bs]

set_option maxHeartbeats 2000000 in
set_option maxRecDepth 100000 in
theorem refpart_any (n : Int) (hn : I64 n) : ∀ (N : Nat) (hs : List Hs) (m : Nat) (old : Bool) (v : Value) (w : World), hs.length = N → 1 ≤ m → m ≤ N → N ≤ 1000000000 → Hss w v hs → Consts w →
    Calls Tryd.prog 46 #[.int .i64 n, v, .int .i64 (m : Int), .bool old] w fun e w' => ∃ u, e = .returned u ∧ OHs w' w.heap.size u (partG n hs m old) ∧ Below w.heap.size w w' := by
  intro N
  induction N using Nat.strongRecOn with
  | ind N ih =>
    intro hs m old v w hN h1 hmN hl hv hk
    obtain ⟨a, c, rfl, hlc⟩ := hv.form
    rw [hN] at hv hlc ⊢
    by_cases he : m = N
    · subst he
      rw [partG_all n hs m old (by omega)]
      cases old with
      | true =>
        rw [if_pos rfl]
        clear ih hv hk hn hN
        go_enter Tryd.func46, Tryd.ntmps46
        go_wp2
        exact bodyPost_ret (v := .slice none 0 0) (by simp [results, Tryd.results46, go_sem]) rfl ⟨_, rfl, OHs.none _ _, Below.refl _ _⟩
      | false =>
        rw [if_neg (by decide)]
        obtain ⟨R, hR⟩ : ∃ R, R = rootH n hs := ⟨_, rfl⟩
        have hR32 : R.length = 32 := by rw [hR]; exact rootH_length _ _ hv.all
        have HRoot := Lib.hid (refroot_any n hn m hs (.slice a m c) w hN hv (by omega) hk)
        rw [← hR] at HRoot ⊢
        obtain ⟨cr, hcr, hcr1, _⟩ := hash_cells R hR32
        rw [← hcr] at HRoot
        have HCr := Lib.hid hcr
        have HCr1 := Lib.hid hcr1
        have HR32 := Lib.hid hR32
        clear ih hv hk hn hN hR hcr hcr1 hR32
        go_enter Tryd.func46, Tryd.ntmps46
        go_wp2_with fail
        refine HRoot.out.mono ?_
        rintro e w2 ⟨rfl, hb2⟩
        have HB2 := Lib.hid hb2
        clear hb2 HRoot
        go_wp2_with (refine wpList_build_hash1 rfl (.tmp 19) rfl cr rfl HCr1.out ?_)
        refine bodyPost_ret (v := .slice (some ⟨w2.heap.size, 0, none⟩) 1 1) (by simp [results, Tryd.results46, go_sem]) rfl ⟨_, rfl, ?_, HB2.out.alloc HB2.out.size _⟩
        rw [HCr.out]
        exact ohs_new w2 _ R HR32.out HB2.out.size
    · have hmlt : m < hs.length := by omega
      have h2 : 2 ≤ hs.length := by omega
      have hne : ¬ (m : Int) = (N : Int) := by omega
      have hk1 := splitN_lt h2
      have hk0 := splitN_pos hs.length
      obtain ⟨k, hkk⟩ : ∃ k, k = splitN hs.length := ⟨_, rfl⟩
      rw [← hkk] at hk0 hk1
      have hkN : k < N := by omega
      have HSplit := Lib.hid (fun W => refsplit_any N W (by omega) (by omega))
      rw [← hN, ← hkk, hN] at HSplit
      obtain ⟨va, hva⟩ : ∃ va, va = sliced a 0 k c 32 := ⟨_, rfl⟩
      obtain ⟨vb, hvb⟩ : ∃ vb, vb = sliced a k N c 32 := ⟨_, rfl⟩
      have h1s : Hss w va (hs.take k) := by
        have := hv.sub 0 k (by omega) (by omega)
        rw [hva]
        simpa using this
      have h2s : Hss w vb (hs.drop k) := by
        have := hv.sub k N (by omega) (by omega)
        rw [hvb]
        rwa [List.take_of_length_le (by omega)] at this
      have HSa := Lib.hid (show ∀ W, (Instr.sliceAt 22 (.slice a N c) none (some (.int .i64 (k : Int))) none).run Tryd.prog W = .ok va W from fun W => by rw [hva]; exact slice_hs_to a N c k (by omega) W)
      have HSb := Lib.hid (show ∀ W, (Instr.sliceAt 22 (.slice a N c) (some (.int .i64 (k : Int))) none none).run Tryd.prog W = .ok vb W from fun W => by rw [hvb]; exact slice_hs_from a N c k (by omega) W)
      have hka : (hs.take k).length = k := by rw [List.length_take]; omega
      have hkb : (hs.drop k).length = N - k := by rw [List.length_drop]; omega
      by_cases hmk : m ≤ k
      · have hpe := partG_left n hs m old hmlt h2 (by rw [← hkk]; exact hmk)
        rw [← hkk] at hpe
        obtain ⟨R, hR⟩ : ∃ R, R = rootH n (hs.drop k) := ⟨_, rfl⟩
        have hR32 : R.length = 32 := by rw [hR]; exact rootH_length _ _ h2s.all
        have hpl : (partG n (hs.take k) m old).length ≤ 65 := by
          rw [partG_length n k _ m old hka hmk]
          exact sizeG_65 m k old hmk (by omega)
        have HA := Lib.hid (fun (W : World) (hW : Below w.heap.size w W) => ih k hkN (hs.take k) m old va W hka h1 hmk (by omega) (h1s.below (Nat.le_refl _) hW) (hk.below (Nat.le_refl _) hW))
        have HRoot := Lib.hid (fun (W : World) (hW : Below w.heap.size w W) => refroot_any n hn (N - k) (hs.drop k) vb W hkb (h2s.below (Nat.le_refl _) hW) (by omega) (hk.below (Nat.le_refl _) hW))
        rw [← hR] at HRoot
        rw [hpe, ← hR]
        obtain ⟨P, hP⟩ : ∃ P, P = partG n (hs.take k) m old := ⟨_, rfl⟩
        rw [← hP] at HA hpl ⊢
        obtain ⟨cr, hcr, hcr1, _⟩ := hash_cells R hR32
        rw [← hcr] at HRoot
        have HCr := Lib.hid hcr
        have HR32 := Lib.hid hR32
        have HPl := Lib.hid hpl
        clear hv hk ih hN hn h1s h2s hka hkb h2 hpe hR hP hkk hR32 hpl hcr hcr1 hk0 hk1 hmlt hva hvb
        have hle : decide ((m : Int) ≤ (k : Int)) = true := decide_eq_true (by omega)
        go_enter Tryd.func46, Tryd.ntmps46
        go_wp2_with fail
        refine (HSplit.out _).mono ?_
        rintro e w2 ⟨rfl, rfl⟩
        obtain ⟨w, rfl⟩ : ∃ x : World, x = w2 := ⟨_, rfl⟩
        go_upto_region 8 with fail
        have hG : ∀ W W' : World, Below w.heap.size w W → Below W.heap.size W W' → Below w.heap.size w W' := fun W W' h h' => h.trans (h'.mono h.size)
        have hB : ∀ W : World, Below w.heap.size w W → w.heap.size ≤ W.heap.size := fun W h => h.size
        have hgr : ∀ (W W' : World) (row : Option Nat), Below w.heap.size w W → W.grownBy W' row → (∀ k, row = some k → w.heap.size ≤ k) → Below w.heap.size w W' := fun W W' row hW hg hrow => hW.grown hg hW.size hrow
        refine region_late_by 14 _ _ rfl [(26, .is (.int .i64 n)), (27, .is (.slice a N c)), (28, .is (.int .i64 (k : Int))), (29, .is va), (30, .is (.int .i64 (m : Int))), (31, .is (.bool old)), (32, ohsF w.heap.size P), (33, .is (.int .i64 n)), (34, .is (.slice a N c)), (35, .is (.int .i64 (k : Int))), (36, .is vb), (37, .is (.agg cr)), (38, hssF [R]), (39, ohsF w.heap.size (P ++ [R]))] [39]
          (fun W => Below w.heap.size w W) (by kernel_rfl) (by kernel_rfl) (by kernel_rfl) (by kernel_rfl) (fun k fk hk => .inl (lookup_ops (by kernel_rfl) hk)) rfl rfl rfl (by kernel_rfl) ((Below.refl _ _).drew) ?_ ?_
        · refine ⟨?a0, ?a1, ?a2, ?a3, ?a4, ?a5, ?a6, ?a7, ?a8, ?a9, ?a10, ?a11, ?a12, ?a13, trivial⟩
          case a0 => exact Asked.late (ask_copy (guard_none rfl) (.tmp 0) (.inl rfl) (by intro k hk; cases hk; rfl))
          case a1 => exact Asked.late (ask_copy (guard_none rfl) (.tmp 1) (.inl rfl) (by intro k hk; cases hk; rfl))
          case a2 => exact Asked.late (ask_copy (guard_none rfl) (.tmp 10) (.inl rfl) (by intro k hk; cases hk; rfl))
          case a3 => exact Asked.late (ask_slice (guard_none rfl) 22 (.tmp 27) none (some (.tmp 28)) none (.slice a N c) va none (some (.int .i64 (k : Int))) none rfl rfl rfl rfl rfl (by intro k hk; cases hk; rfl) HSa.out)
          case a4 => exact Asked.late (ask_copy (guard_none rfl) (.tmp 2) (.inl rfl) (by intro k hk; cases hk; rfl))
          case a5 => exact Asked.late (ask_copy (guard_none rfl) (.tmp 3) (.inl rfl) (by intro k hk; cases hk; rfl))
          case a6 => exact Asked.late (ask_call hG (guard_none rfl) _ _ _ #[.int .i64 n, va, .int .i64 (m : Int), .bool old] (ohsF w.heap.size P) rfl (by kernel_rfl) rfl rfl (by intro k hk; cases hk; rfl) (fun W hW => (HA.out W hW).mono fun e w' h => by obtain ⟨u, h1, h2, h3⟩ := h; exact ⟨u, h1, h2.lower hW.size, h3⟩))
          case a7 => exact Asked.late (ask_copy (guard_none rfl) (.tmp 0) (.inl rfl) (by intro k hk; cases hk; rfl))
          case a8 => exact Asked.late (ask_copy (guard_none rfl) (.tmp 1) (.inl rfl) (by intro k hk; cases hk; rfl))
          case a9 => exact Asked.late (ask_copy (guard_none rfl) (.tmp 10) (.inl rfl) (by intro k hk; cases hk; rfl))
          case a10 => exact Asked.late (ask_slice (guard_none rfl) 22 (.tmp 34) (some (.tmp 35)) none none (.slice a N c) vb (some (.int .i64 (k : Int))) none none rfl rfl rfl rfl rfl (by intro k hk; cases hk; rfl) HSb.out)
          case a11 => exact Asked.late (ask_call hG (guard_none rfl) _ _ _ #[.int .i64 n, vb] (.is (.agg cr)) rfl (by kernel_rfl) rfl rfl (by intro k hk; cases hk; rfl) (fun W hW => (HRoot.out W hW).mono fun e w' h => ⟨_, h.1, rfl, h.2⟩))
          case a12 => exact Asked.late (ask_build_hash hG (guard_none rfl) _ R cr HR32.out HCr.out rfl rfl (by intro k hk; cases hk; rfl))
          case a13 => exact ask_append_ohs (guard_none rfl) (by kernel_rfl) (.tmp 32) (.tmp 38) _ P [R] rfl rfl rfl (fun x W hW hk => hk 38 rfl) (by have := HPl.out; simp only [List.length_singleton]; omega) hB hgr (by intro k hk; cases hk; rfl)
        · intro a' W hW hd' hs' hf'
          have t39 : OHs W w.heap.size (a'.tmps.getD 39 undef) (P ++ [R]) := hf' 39 rfl
          obtain ⟨us', hus, ha'⟩ := act_open 55 a' hs' hd'
          rw [← hus] at t39
          have el : ((List.range 55).map us').toArray = #[us' 0, us' 1, us' 2, us' 3, us' 4, us' 5, us' 6, us' 7, us' 8, us' 9, us' 10, us' 11, us' 12, us' 13, us' 14, us' 15, us' 16, us' 17, us' 18, us' 19, us' 20, us' 21, us' 22, us' 23, us' 24, us' 25, us' 26, us' 27, us' 28, us' 29, us' 30, us' 31, us' 32, us' 33, us' 34, us' 35, us' 36, us' 37, us' 38, us' 39, us' 40, us' 41, us' 42, us' 43, us' 44, us' 45, us' 46, us' 47, us' 48, us' 49, us' 50, us' 51, us' 52, us' 53, us' 54] := rfl
          rw [el] at ha'
          subst ha'
          have HO := Lib.hid t39
          have HW := Lib.hid hW
          clear hus t39 el hf' hs' hd' hG hB hgr hW
          go_wp2
          exact bodyPost_ret (v := us' 39) (by simp [results, Tryd.results46, go_sem]) rfl ⟨_, rfl, HO.out, HW.out⟩
      · have hpe := partG_right n hs m old hmlt h2 (by rw [← hkk]; exact hmk)
        rw [← hkk] at hpe
        obtain ⟨m2, hm2⟩ : ∃ m2 : Nat, m2 = m - k := ⟨_, rfl⟩
        have HM2 := Lib.hid (show (m : Int) - (k : Int) = (m2 : Int) by omega)
        obtain ⟨R, hR⟩ : ∃ R, R = rootH n (hs.take k) := ⟨_, rfl⟩
        have hR32 : R.length = 32 := by rw [hR]; exact rootH_length _ _ h1s.all
        have hpl : (partG n (hs.drop k) (m - k) false).length ≤ 65 := by
          rw [partG_length n (N - k) _ (m - k) false hkb (by omega)]
          exact sizeG_65 (m - k) (N - k) false (by omega) (by omega)
        rw [← hm2] at hpe hpl
        have hm2b : m2 ≤ 1000000000 := by omega
        have HA := Lib.hid (fun (W : World) (hW : Below w.heap.size w W) => ih (N - k) (by omega) (hs.drop k) m2 false vb W hkb (by omega) (by omega) (by omega) (h2s.below (Nat.le_refl _) hW) (hk.below (Nat.le_refl _) hW))
        have HRoot := Lib.hid (fun (W : World) (hW : Below w.heap.size w W) => refroot_any n hn k (hs.take k) va W hka (h1s.below (Nat.le_refl _) hW) (by omega) (hk.below (Nat.le_refl _) hW))
        rw [← hR] at HRoot
        rw [hpe, ← hR]
        obtain ⟨P, hP⟩ : ∃ P, P = partG n (hs.drop k) m2 false := ⟨_, rfl⟩
        rw [← hP] at HA hpl ⊢
        obtain ⟨cr, hcr, hcr1, _⟩ := hash_cells R hR32
        rw [← hcr] at HRoot
        have HCr := Lib.hid hcr
        have HR32 := Lib.hid hR32
        have HPl := Lib.hid hpl
        clear hv hk ih hN hn h1s h2s hka hkb h2 hpe hR hP hkk hR32 hpl hcr hcr1 hk0 hk1 hmlt hva hvb
        have hle : decide ((m : Int) ≤ (k : Int)) = false := decide_eq_false (by omega)
        go_enter Tryd.func46, Tryd.ntmps46
        go_wp2_with fail
        refine (HSplit.out _).mono ?_
        rintro e w2 ⟨rfl, rfl⟩
        obtain ⟨w, rfl⟩ : ∃ x : World, x = w2 := ⟨_, rfl⟩
        go_upto_region 9 with fail
        have hG : ∀ W W' : World, Below w.heap.size w W → Below W.heap.size W W' → Below w.heap.size w W' := fun W W' h h' => h.trans (h'.mono h.size)
        have hB : ∀ W : World, Below w.heap.size w W → w.heap.size ≤ W.heap.size := fun W h => h.size
        have hgr : ∀ (W W' : World) (row : Option Nat), Below w.heap.size w W → W.grownBy W' row → (∀ k, row = some k → w.heap.size ≤ k) → Below w.heap.size w W' := fun W W' row hW hg hrow => hW.grown hg hW.size hrow
        refine region_late_by 15 _ _ rfl [(40, .is (.int .i64 n)), (41, .is (.slice a N c)), (42, .is (.int .i64 (k : Int))), (43, .is vb), (44, .is (.int .i64 (m : Int))), (45, .is (.int .i64 (k : Int))), (46, .is (.int .i64 (m2 : Int))), (47, ohsF w.heap.size P), (48, .is (.int .i64 n)), (49, .is (.slice a N c)), (50, .is (.int .i64 (k : Int))), (51, .is va), (52, .is (.agg cr)), (53, hssF [R]), (54, ohsF w.heap.size (P ++ [R]))] [54]
          (fun W => Below w.heap.size w W) (by kernel_rfl) (by kernel_rfl) (by kernel_rfl) (by kernel_rfl) (fun k fk hk => .inl (lookup_ops (by kernel_rfl) hk)) rfl rfl rfl (by kernel_rfl) ((Below.refl _ _).drew) ?_ ?_
        · refine ⟨?a0, ?a1, ?a2, ?a3, ?a4, ?a5, ?a6, ?a7, ?a8, ?a9, ?a10, ?a11, ?a12, ?a13, ?a14, trivial⟩
          case a0 => exact Asked.late (ask_copy (guard_none rfl) (.tmp 0) (.inl rfl) (by intro k hk; cases hk; rfl))
          case a1 => exact Asked.late (ask_copy (guard_none rfl) (.tmp 1) (.inl rfl) (by intro k hk; cases hk; rfl))
          case a2 => exact Asked.late (ask_copy (guard_none rfl) (.tmp 10) (.inl rfl) (by intro k hk; cases hk; rfl))
          case a3 => exact Asked.late (ask_slice (guard_none rfl) 22 (.tmp 41) (some (.tmp 42)) none none (.slice a N c) vb (some (.int .i64 (k : Int))) none none rfl rfl rfl rfl rfl (by intro k hk; cases hk; rfl) HSb.out)
          case a4 => exact Asked.late (ask_copy (guard_none rfl) (.tmp 2) (.inl rfl) (by intro k hk; cases hk; rfl))
          case a5 => exact Asked.late (ask_copy (guard_none rfl) (.tmp 10) (.inl rfl) (by intro k hk; cases hk; rfl))
          case a6 => exact Asked.late (ask_bin (guard_none rfl) .sub _ _ (.tmp 44) (.tmp 45) (.int .i64 (m : Int)) (.int .i64 (k : Int)) (.int .i64 (m2 : Int)) rfl rfl rfl (by intro k hk; cases hk; rfl) (fun W => sub_i64 _ _ _ _ _ _ HM2.out (by omega) W))
          case a7 => exact Asked.late (ask_call hG (guard_none rfl) _ _ _ #[.int .i64 n, vb, .int .i64 (m2 : Int), .bool false] (ohsF w.heap.size P) rfl (by kernel_rfl) rfl rfl (by intro k hk; cases hk; rfl) (fun W hW => (HA.out W hW).mono fun e w' h => by obtain ⟨u, h1, h2, h3⟩ := h; exact ⟨u, h1, h2.lower hW.size, h3⟩))
          case a8 => exact Asked.late (ask_copy (guard_none rfl) (.tmp 0) (.inl rfl) (by intro k hk; cases hk; rfl))
          case a9 => exact Asked.late (ask_copy (guard_none rfl) (.tmp 1) (.inl rfl) (by intro k hk; cases hk; rfl))
          case a10 => exact Asked.late (ask_copy (guard_none rfl) (.tmp 10) (.inl rfl) (by intro k hk; cases hk; rfl))
          case a11 => exact Asked.late (ask_slice (guard_none rfl) 22 (.tmp 49) none (some (.tmp 50)) none (.slice a N c) va none (some (.int .i64 (k : Int))) none rfl rfl rfl rfl rfl (by intro k hk; cases hk; rfl) HSa.out)
          case a12 => exact Asked.late (ask_call hG (guard_none rfl) _ _ _ #[.int .i64 n, va] (.is (.agg cr)) rfl (by kernel_rfl) rfl rfl (by intro k hk; cases hk; rfl) (fun W hW => (HRoot.out W hW).mono fun e w' h => ⟨_, h.1, rfl, h.2⟩))
          case a13 => exact Asked.late (ask_build_hash hG (guard_none rfl) _ R cr HR32.out HCr.out rfl rfl (by intro k hk; cases hk; rfl))
          case a14 => exact ask_append_ohs (guard_none rfl) (by kernel_rfl) (.tmp 47) (.tmp 53) _ P [R] rfl rfl rfl (fun x W hW hk => hk 53 rfl) (by have := HPl.out; simp only [List.length_singleton]; omega) hB hgr (by intro k hk; cases hk; rfl)
        · intro a' W hW hd' hs' hf'
          have t54 : OHs W w.heap.size (a'.tmps.getD 54 undef) (P ++ [R]) := hf' 54 rfl
          obtain ⟨us', hus, ha'⟩ := act_open 55 a' hs' hd'
          rw [← hus] at t54
          have el : ((List.range 55).map us').toArray = #[us' 0, us' 1, us' 2, us' 3, us' 4, us' 5, us' 6, us' 7, us' 8, us' 9, us' 10, us' 11, us' 12, us' 13, us' 14, us' 15, us' 16, us' 17, us' 18, us' 19, us' 20, us' 21, us' 22, us' 23, us' 24, us' 25, us' 26, us' 27, us' 28, us' 29, us' 30, us' 31, us' 32, us' 33, us' 34, us' 35, us' 36, us' 37, us' 38, us' 39, us' 40, us' 41, us' 42, us' 43, us' 44, us' 45, us' 46, us' 47, us' 48, us' 49, us' 50, us' 51, us' 52, us' 53, us' 54] := rfl
          rw [el] at ha'
          subst ha'
          have HO := Lib.hid t54
          have HW := Lib.hid hW
          clear hus t54 el hf' hs' hd' hG hB hgr hW
          go_wp2
          exact bodyPost_ret (v := us' 54) (by simp [results, Tryd.results46, go_sem]) rfl ⟨_, rfl, HO.out, HW.out⟩

/-- What Prove answers. -/
def growR (n : Int) (hs : List Hs) (m N : Int) : List Hs × Nat :=
  if m < 0 ∨ m > N ∨ N > (hs.length : Int) then ([], 9) else if m = 0 then ([], 0) else (partG n (hs.take N.toNat) m.toNat true, 0)

set_option maxHeartbeats 1000000 in
set_option maxRecDepth 100000 in
theorem refprove16_any (n : Int) (hn : I64 n) (hs : List Hs) (m N : Int) (v : Value) (w : World) (hN : I64 N) (hl : hs.length ≤ 1000000000) (hv : Hss w v hs) (hk : Consts w) :
    Calls Tryd.prog 26 #[.int .i64 n, v, .int .i64 m, .int .i64 N] w fun e w' => ∃ u, e = .returned (.tuple #[u, .int .i64 ((growR n hs m N).2 : Int)]) ∧ OHs w' w.heap.size u (growR n hs m N).1 ∧ Below w.heap.size w w' := by
  obtain ⟨a, c, rfl, hlc⟩ := hv.form
  obtain ⟨L, hL⟩ : ∃ L, L = hs.length := ⟨_, rfl⟩
  rw [← hL] at hv hlc hl ⊢
  by_cases h1 : m < 0
  · have e : growR n hs m N = ([], 9) := by rw [growR, if_pos (.inl h1)]
    rw [e]
    have d1 : decide (m < 0) = true := decide_eq_true h1
    clear hv hk hL e hn
    go_enter Tryd.func26, Tryd.ntmps26
    go_wp2
    exact bodyPost_ret (v := .tuple #[.slice none 0 0, .int .i64 9]) (by simp [results, Tryd.results26, go_sem]) rfl ⟨_, rfl, OHs.none _ _, Below.refl _ _⟩
  · have d1 : decide (m < 0) = false := decide_eq_false h1
    by_cases h2 : m > N
    · have e : growR n hs m N = ([], 9) := by rw [growR, if_pos (.inr (.inl h2))]
      rw [e]
      have d2 : decide (m > N) = true := decide_eq_true h2
      clear hv hk hL e hn
      go_enter Tryd.func26, Tryd.ntmps26
      go_wp2
      exact bodyPost_ret (v := .tuple #[.slice none 0 0, .int .i64 9]) (by simp [results, Tryd.results26, go_sem]) rfl ⟨_, rfl, OHs.none _ _, Below.refl _ _⟩
    · have d2 : decide (m > N) = false := decide_eq_false h2
      by_cases h3 : N > (L : Int)
      · have e : growR n hs m N = ([], 9) := by rw [growR, if_pos (.inr (.inr (by rw [← hL]; exact h3)))]
        rw [e]
        have d3 : decide (N > (L : Int)) = true := decide_eq_true h3
        clear hv hk hL e hn
        go_enter Tryd.func26, Tryd.ntmps26
        go_wp2
        exact bodyPost_ret (v := .tuple #[.slice none 0 0, .int .i64 9]) (by simp [results, Tryd.results26, go_sem]) rfl ⟨_, rfl, OHs.none _ _, Below.refl _ _⟩
      · have d3 : decide (N > (L : Int)) = false := decide_eq_false h3
        by_cases h4 : m = 0
        · subst h4
          have e : growR n hs 0 N = ([], 0) := by rw [growR, if_neg (by rw [← hL]; omega), if_pos rfl]
          rw [e]
          clear hv hk hL e hn
          go_enter Tryd.func26, Tryd.ntmps26
          go_wp2
          exact bodyPost_ret (v := .tuple #[.slice none 0 0, .int .i64 0]) (by simp [results, Tryd.results26, go_sem]) rfl ⟨_, rfl, OHs.none _ _, Below.refl _ _⟩
        · have e : growR n hs m N = (partG n (hs.take N.toNat) m.toNat true, 0) := by rw [growR, if_neg (by rw [← hL]; omega), if_neg h4]
          rw [e]
          have d4 : (m == 0) = false := by simpa using h4
          obtain ⟨mm, rfl⟩ : ∃ x : Nat, m = (x : Int) := ⟨m.toNat, by omega⟩
          obtain ⟨NN, rfl⟩ : ∃ x : Nat, N = (x : Int) := ⟨N.toNat, by omega⟩
          simp only [Int.toNat_natCast]
          have hv2 : Hss w (.slice a NN c) (hs.take NN) := by
            have := hv.sub 0 NN (by omega) (by omega)
            rw [sliced_zero3] at this
            simpa using this
          have HPart := Lib.hid (refpart_any n hn NN (hs.take NN) mm true (.slice a NN c) w (by rw [List.length_take]; omega) (by omega) (by omega) (by omega) hv2 hk)
          have HSl := Lib.hid (show ∀ W, (Instr.sliceAt 22 (.slice a L c) none (some (.int .i64 (NN : Int))) none).run Tryd.prog W = .ok (.slice a NN c) W from fun W => by rw [slice_hs_to a L c NN (by omega) W, sliced_zero3])
          obtain ⟨P, hP⟩ : ∃ P, P = partG n (hs.take NN) mm true := ⟨_, rfl⟩
          rw [← hP] at HPart ⊢
          clear hv hk hL e hn hv2 hP
          go_enter Tryd.func26, Tryd.ntmps26
          go_wp2_with (refine wpList_slice_by rfl 22 (.tmp 26) none (some (.tmp 27)) rfl (.slice a L c) (.slice a NN c) none (some (.int .i64 (NN : Int))) rfl rfl rfl (HSl.out _) ?_)
          refine HPart.out.mono ?_
          rintro e w2 ⟨u, rfl, ho, hb⟩
          have HO := Lib.hid ho
          have HB := Lib.hid hb
          clear ho hb HPart
          go_wp2
          exact bodyPost_ret (v := .tuple #[u, .int .i64 0]) (by simp [results, Tryd.results26, go_sem]) rfl ⟨_, rfl, HO.out, HB.out⟩

end Go.Proofs.YtdhfabjkpffhnabDoor

