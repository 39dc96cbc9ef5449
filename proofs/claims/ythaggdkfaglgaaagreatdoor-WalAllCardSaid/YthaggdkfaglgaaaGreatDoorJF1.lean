/- Joined: Texts, BinMath, BinNum, BinRef, BinRaw, CrcMath, CrcNum, CrcMore, ReadMath, FrameMath, FrameKit, FrameSum. -/
import Derived.Test.YthaggdkfaglgaaaGreatDoorJA1
import Derived.Deep.Matrix
import Derived.OpenShut
import Derived.Lib.BitFns
import Derived.Laws.Strings
import Derived.Test.YthaggdkfaglgaaaGreatDoorRows
import Derived.Test.YthaggdkfaglgaaaGreatDoorBinLen
import Derived.WalkKit
import Derived.WalkSpells
import Derived.WalkLawsBesides
import Derived.Lib.Hide
import Derived.Laws.AppendOwnNone
import Derived.Lib.BufferRead
import Derived.Laws.BitsAllLaws
import Derived.Lib.SlBytesConst
/- Slices of texts that came in; what is known of the bulk of what came in. -/
namespace Go.Proofs.YthaggdkfaglgaaaGreatDoor
set_option maxRecDepth 20000
open Go.ChangeShapes Go.WideShapes Go.ChangeAt Go.RowKit Go.Deep

namespace Bulk
theorem pos {H : Type} (d : DataW H) : 1 ≤ Rows.uptoBulk d := by
  cases d with
  | lit l => cases l <;> simp [Rows.uptoBulk]
  | _ => simp [Rows.uptoBulk]

theorem places {H : Type} : ∀ l : List (DataW H), l.length ≤ Rows.uptoBulkAll l
  | [] => by simp [Rows.uptoBulkAll]
  | d :: r => by
    have h1 := pos d
    have h2 := places r
    simp only [Rows.uptoBulkAll, List.length_cons]
    omega

theorem part {H : Type} {d : DataW H} : ∀ {l : List (DataW H)}, d ∈ l → Rows.uptoBulk d ≤ Rows.uptoBulkAll l
  | x :: r, h => by
    simp only [Rows.uptoBulkAll]
    rcases List.mem_cons.1 h with rfl | h
    · omega
    · have := part h
      omega

theorem elems {H : Type} (l r : List (DataW H)) : Rows.uptoBulkAll l ≤ Rows.uptoBulk (.slice l r) := by
  simp only [Rows.uptoBulk]; omega
end Bulk

/-- The texts that came in. -/
def TextsAt (w : World) (a : Option Addr) (T : List (List UInt8)) : Prop := ∀ (i : Nat) (t : List UInt8), T[i]? = some t → t.length ≤ 1048576 ∧ ∃ ad A C, a = some ad ∧ w.cell? (ad.add i) = some (.slice A t.length C) ∧ Bys w (.slice A t.length C) t

theorem TextsAt.below {w w' : World} {a : Option Addr} {T : List (List UInt8)} (h : TextsAt w a T) (hb : Below w.heap.size w w') : TextsAt w' a T := fun i n hi => by
  obtain ⟨h1, ad, A, C, h2, h3, h4⟩ := h i n hi
  exact ⟨h1, ad, A, C, h2, by rw [hb.cell (World.block_lt_of_cell? w _ h3)]; exact h3, h4.below (Nat.le_refl _) hb⟩

/-- append to the row of the first loop, as a walk meets it. -/
theorem grow_row {w wr : World} {B : Nat} {v x : Value} {l l' : List UInt8} (hB : B ≤ wr.heap.size) (h : Row wr B v l) (hx : Bys wr x l') (hlen : l.length + l'.length ≤ 140737488355328) (hw : Below B w wr) :
    ∃ v' w', (Builtin.append_ #[27, 27] 27 #[v, x]).run Tryz.prog wr = .ok v' w' ∧ (Row w' B v' (l ++ l') ∧ Below B w w') := by
  obtain ⟨v', w', h1, h2, h3⟩ := append_bys hB h hx hlen
  exact ⟨v', w', h1, h2, hw.grown h3 hB fun k hk => (World.ownsRow.lt h k hk).1⟩

/-- A slice of texts that came in, where its bulk is bounded. -/
theorem open_texts {H : Type} {enc : TypeId × Value → H} {W : World} {a1 : Option Addr} {len1 cap1 fuel : Nat} {d1 : DataW H} {p1 : List MemPlace} (hb : Rows.uptoBulk d1 ≤ 1048576)
    (hf : DataW.trod enc Tryz.prog W 0 (fun _ => true) true fuel 33 (Value.slice a1 len1 cap1).cells.toList = some (d1, p1)) : ∃ T : List (List UInt8), T.length = len1 ∧ TextsAt W a1 T ∧ len1 ≤ 1048576 ∧ len1 ≤ cap1 := by
  rcases open_int_rows Tryz.underlying33 Tryz.underlying27 Tryz.underlying5 (by kernel_rfl) (by kernel_rfl) hf with ⟨hcs, _⟩ | ⟨x, l, c, A, L, C, Z, hcs, _, hl, hm, hx, hrow⟩
  · simp [Value.cells] at hcs
    obtain ⟨rfl, rfl, rfl⟩ := hcs
    exact ⟨[], rfl, fun i n h => by simp at h, by omega, by omega⟩
  · simp [Value.cells] at hcs
    obtain ⟨rfl, rfl, rfl⟩ := hcs
    have hd : d1 = _ := (Prod.mk.inj hx).1
    have e := Bulk.elems (H := H) ((List.range len1).map fun r => intRow .u8 (A r) (L r) (Z r)) ((List.range (cap1 - len1)).map fun j => intRow .u8 (A (len1 + j)) (L (len1 + j)) (Z (len1 + j)))
    rw [← hd] at e
    have e2 := Bulk.places (H := H) ((List.range len1).map fun r => intRow .u8 (A r) (L r) (Z r))
    simp only [List.length_map, List.length_range] at e2
    have each : ∀ r, r < len1 → ∃ t : List UInt8, t.length = L r ∧ t.length ≤ 1048576 ∧ Bys W (.slice (A r) (L r) (C r)) t := by
      intro r hr
      obtain ⟨hc, hlc, hcm, hzl, hwz, hnone, hcells⟩ := hrow r (by omega)
      have hR : IsRow .u8 W (A r) (L r) (C r) (Z r) := by
        cases hA : A r with
        | none =>
          have h0 := hnone hA
          refine .inl ⟨rfl, by omega, h0, List.eq_nil_of_length_eq_zero (by omega)⟩
        | some ad => exact .inr ⟨ad, rfl, hlc, hcm, hzl, fun i hi => (hcells ad hA).2 i (by omega), hwz⟩
      obtain ⟨t, ht, hb2⟩ := hR.bys
      refine ⟨t, ht, ?_, hb2⟩
      rw [ht]
      cases hA : A r with
      | none => have := hnone hA; omega
      | some ad =>
        have e3 := Bulk.part (H := H) (d := intRow .u8 (A r) (L r) (Z r)) (l := (List.range len1).map fun r => intRow .u8 (A r) (L r) (Z r)) (List.mem_map.2 ⟨r, List.mem_range.2 hr, rfl⟩)
        have e7 : intRow (H := H) .u8 (A r) (L r) (Z r) = .slice (lits .u8 ((Z r).take (L r))) (lits .u8 ((Z r).drop (L r))) := by rw [hA]; rfl
        rw [e7] at e3
        have e4 := Bulk.elems (H := H) (lits .u8 ((Z r).take (L r))) (lits .u8 ((Z r).drop (L r)))
        have e5 := Bulk.places (H := H) (lits .u8 ((Z r).take (L r)))
        simp only [lits, List.length_map, List.length_take] at e5
        simp only [lits] at e4 e3
        omega
    obtain ⟨t, ht⟩ := choose_lt each
    refine ⟨(List.range len1).map t, by simp, fun i u hu => ?_, by omega, by omega⟩
    rw [List.getElem?_map] at hu
    obtain ⟨j, hj, rfl⟩ := Option.map_eq_some_iff.1 hu
    obtain ⟨hj1, hj2⟩ := List.getElem?_eq_some_iff.1 hj
    simp at hj1 hj2
    subst hj2
    obtain ⟨e6, e7, e8⟩ := ht i hj1
    refine ⟨e7, _, A i, C i, rfl, ?_, ?_⟩
    · rw [e6]; exact (hrow i (by omega)).1
    · rw [e6]; exact e8

end Go.Proofs.YthaggdkfaglgaaaGreatDoor

/- Plain facts on the bytes of a number: what layer 1 lays, as lists. No program is named here. -/
namespace Go.Proofs.YthaggdkfaglgaaaGreatDoor.BinMath
set_option maxRecDepth 20000

/-- How many bytes a number takes. -/
def nb (n : Nat) : Nat := (Lib.bitLen n + 7) / 8

/-- The lowest k bytes of a number, the highest first. -/
def be : Nat → Nat → List UInt8
  | 0, _ => []
  | k + 1, n => UInt8.ofNat (n / 256 ^ k % 256) :: be k n

/-- The bytes of a number. -/
def numL (n : Nat) : List UInt8 := UInt8.ofNat (nb n) :: be (nb n) n

theorem be_length (k n : Nat) : (be k n).length = k := by
  induction k with
  | zero => rfl
  | succ k ih => simp [be, ih]

theorem numL_length (n : Nat) : (numL n).length = nb n + 1 := by simp [numL, be_length]

theorem nb_zero : nb 0 = 0 := by decide

theorem two_pow_eight (k : Nat) : 2 ^ (8 * k) = 256 ^ k := by
  rw [Nat.pow_mul]

theorem bl_spec (m : Nat) : ∀ n, n ≤ m → n < 18446744073709551616 → n < 2 ^ Lib.bitLen n ∧ (n ≠ 0 → 2 ^ (Lib.bitLen n - 1) ≤ n) := by
  induction m with
  | zero => intro n h _; obtain rfl : n = 0 := by omega
            decide
  | succ m ih =>
    intro n h hn
    by_cases h0 : n = 0
    · subst h0; decide
    · have e := Lib.bitLen_half n h0 hn
      obtain ⟨a, b⟩ := ih (n / 2) (by omega) (by omega)
      rw [e, Nat.add_sub_cancel_left, Nat.pow_add, Nat.pow_one]
      refine ⟨by omega, fun _ => ?_⟩
      by_cases h2 : n / 2 = 0
      · have e0 : Lib.bitLen 0 = 0 := by decide
        rw [h2, e0, Nat.pow_zero]; omega
      · have b2 := b h2
        have hp : 1 ≤ Lib.bitLen (n / 2) := by
          rcases Nat.eq_zero_or_pos (Lib.bitLen (n / 2)) with q | q
          · rw [q] at a; omega
          · exact q
        have e2 : 2 ^ Lib.bitLen (n / 2) = 2 * 2 ^ (Lib.bitLen (n / 2) - 1) := by
          rw [← Nat.pow_succ']; congr 1; omega
        omega

theorem nb_spec (n : Nat) (hlt : n < 18446744073709551616) : n < 256 ^ nb n ∧ (n ≠ 0 → 1 ≤ nb n ∧ 256 ^ (nb n - 1) ≤ n) := by
  have h := bl_spec n n (Nat.le_refl _) hlt
  unfold nb
  constructor
  · refine Nat.lt_of_lt_of_le h.1 ?_
    rw [← two_pow_eight]
    exact Nat.pow_le_pow_right (by decide) (by omega)
  · intro hn
    have h2 := h.2 hn
    have hb : 1 ≤ Lib.bitLen n := by
      rcases Nat.eq_zero_or_pos (Lib.bitLen n) with h0 | h0
      · rw [h0] at h; simp at h; omega
      · exact h0
    refine ⟨by omega, Nat.le_trans ?_ h2⟩
    rw [← two_pow_eight]
    exact Nat.pow_le_pow_right (by decide) (by omega)

theorem nb_unique (n k : Nat) (hlt : n < 18446744073709551616) (h1 : n < 256 ^ k) (h2 : k ≠ 0 → 256 ^ (k - 1) ≤ n) : nb n = k := by
  obtain ⟨a, b⟩ := nb_spec n hlt
  rcases Nat.lt_trichotomy (nb n) k with h | h | h
  · have := h2 (by omega)
    have h3 : 256 ^ nb n ≤ 256 ^ (k - 1) := Nat.pow_le_pow_right (by decide) (by omega)
    omega
  · exact h
  · have hn : n ≠ 0 := by rintro rfl; rw [nb_zero] at h; omega
    have := (b hn).2
    have h3 : 256 ^ k ≤ 256 ^ (nb n - 1) := Nat.pow_le_pow_right (by decide) (by omega)
    omega

theorem nb_le (n : Nat) (h : n < 18446744073709551616) : nb n ≤ 8 := by
  rcases Nat.lt_or_ge 8 (nb n) with h8 | h8
  · have hn : n ≠ 0 := by rintro rfl; rw [nb_zero] at h8; omega
    have := ((nb_spec n h).2 hn).2
    have h3 : 256 ^ 8 ≤ 256 ^ (nb n - 1) := Nat.pow_le_pow_right (by decide) (by omega)
    have h4 : (256 : Nat) ^ 8 = 18446744073709551616 := by decide
    omega
  · exact h8

theorem nb_mono {a b : Nat} (ha' : a < 18446744073709551616) (hb' : b < 18446744073709551616) (h : nb a < nb b) : a < b := by
  have ha := (nb_spec a ha').1
  have hb0 : b ≠ 0 := by rintro rfl; rw [nb_zero] at h; omega
  have hb := ((nb_spec b hb').2 hb0).2
  have h3 : 256 ^ nb a ≤ 256 ^ (nb b - 1) := Nat.pow_le_pow_right (by decide) (by omega)
  omega

/-- One store of the loop: place i of a row whose first i places behind the head are still 0. -/
theorem set_rep {α : Type} (x z b : α) (L : List α) (i : Nat) :
    (x :: (List.replicate (i + 1) z ++ L)).set (i + 1) b = x :: (List.replicate i z ++ b :: L) := by
  simp only [List.set_cons_succ, List.cons.injEq, true_and]
  rw [List.replicate_succ', List.append_assoc]
  rw [List.set_append_right _ _ (by simp)]
  simp

/-! ### Order -/
open Op (bytesLess)

theorem u8_lt (a b : Nat) (ha : a < 256) (hb : b < 256) : UInt8.ofNat a < UInt8.ofNat b ↔ a < b := by
  rw [UInt8.lt_iff_toNat_lt]; simp [Nat.mod_eq_of_lt ha, Nat.mod_eq_of_lt hb]

theorem u8_eq (a b : Nat) (ha : a < 256) (hb : b < 256) : UInt8.ofNat a = UInt8.ofNat b ↔ a = b := by
  constructor
  · intro h
    have := congrArg UInt8.toNat h
    simpa [Nat.mod_eq_of_lt ha, Nat.mod_eq_of_lt hb] using this
  · rintro rfl; rfl

theorem be_mod (k n : Nat) (m : Nat) (h : k ≤ m) : be k (n % 256 ^ m) = be k n := by
  induction k with
  | zero => rfl
  | succ k ih =>
    simp only [be]
    rw [ih (by omega)]
    congr 2
    have e : 256 ^ m = 256 ^ k * 256 ^ (m - k) := by rw [← Nat.pow_add]; congr 1; omega
    rw [e, Nat.mod_mul_right_div_self]
    have e2 : 256 ^ (m - k) = 256 * 256 ^ (m - k - 1) := by
      rw [show m - k = (m - k - 1) + 1 by omega, Nat.pow_succ, Nat.mul_comm]; rfl
    rw [e2, Nat.mod_mul_right_mod]

theorem top_lt (k n : Nat) (h : n < 256 ^ (k + 1)) : n / 256 ^ k < 256 := by
  rw [Nat.div_lt_iff_lt_mul (Nat.pow_pos (by decide))]
  rwa [Nat.pow_succ, Nat.mul_comm] at h

theorem less_be (k : Nat) : ∀ a b : Nat, a < 256 ^ k → b < 256 ^ k → bytesLess (be k a) (be k b) = decide (a < b) := by
  induction k with
  | zero => intro a b ha hb; simp at ha hb; subst ha hb; rfl
  | succ k ih =>
    intro a b ha hb
    have ta := top_lt k a ha
    have tb := top_lt k b hb
    have hp : 0 < 256 ^ k := Nat.pow_pos (by decide)
    have ea := Nat.div_add_mod a (256 ^ k)
    have eb := Nat.div_add_mod b (256 ^ k)
    have la := Nat.mod_lt a hp
    have lb := Nat.mod_lt b hp
    simp only [be, bytesLess]
    rw [Nat.mod_eq_of_lt ta, Nat.mod_eq_of_lt tb]
    rcases Nat.lt_trichotomy (a / 256 ^ k) (b / 256 ^ k) with h | h | h
    · rw [decide_eq_true ((u8_lt _ _ ta tb).2 h), Bool.true_or]
      have h1 : (a / 256 ^ k + 1) * 256 ^ k ≤ b / 256 ^ k * 256 ^ k := Nat.mul_le_mul_right _ h
      have : a < b := by rw [Nat.add_mul] at h1; rw [Nat.mul_comm (256 ^ k)] at ea eb; omega
      simp [this]
    · rw [h, decide_eq_false (by rw [u8_lt _ _ tb tb]; omega), beq_self_eq_true, Bool.true_and, Bool.false_or]
      rw [← be_mod k a k (Nat.le_refl _), ← be_mod k b k (Nat.le_refl _), ih _ _ la lb]
      have : a % 256 ^ k < b % 256 ^ k ↔ a < b := by rw [h] at ea; omega
      simp [this]
    · rw [decide_eq_false (by rw [u8_lt _ _ ta tb]; omega), beq_eq_false_iff_ne.2 (by rw [Ne, u8_eq _ _ ta tb]; omega), Bool.false_and, Bool.false_or]
      have h1 : (b / 256 ^ k + 1) * 256 ^ k ≤ a / 256 ^ k * 256 ^ k := Nat.mul_le_mul_right _ h
      have : ¬ a < b := by rw [Nat.add_mul] at h1; rw [Nat.mul_comm (256 ^ k)] at ea eb; omega
      simp [this]

/-- The bytes of the lesser number are the lesser. -/
theorem less_numL (a b : Nat) (ha : a < 18446744073709551616) (hb : b < 18446744073709551616) : bytesLess (numL a) (numL b) = decide (a < b) := by
  have na := nb_le a ha
  have nb' := nb_le b hb
  simp only [numL, bytesLess]
  rcases Nat.lt_trichotomy (nb a) (nb b) with h | h | h
  · rw [decide_eq_true ((u8_lt _ _ (by omega) (by omega)).2 h), Bool.true_or]
    simp [nb_mono ha hb h]
  · rw [h, decide_eq_false (by rw [u8_lt _ _ (by omega) (by omega)]; omega), beq_self_eq_true, Bool.true_and, Bool.false_or]
    exact less_be _ a b (by rw [← h]; exact (nb_spec a ha).1) (nb_spec b hb).1
  · rw [decide_eq_false (by rw [u8_lt _ _ (by omega) (by omega)]; omega), beq_eq_false_iff_ne.2 (by rw [Ne, u8_eq _ _ (by omega) (by omega)]; omega), Bool.false_and, Bool.false_or]
    have := nb_mono hb ha h
    simp; omega

theorem less_irrefl (l : List UInt8) : bytesLess l l = false := by
  induction l with
  | nil => rfl
  | cons x xs ih => simp [bytesLess, ih]

/-- Two numbers of the same bytes are one. -/
theorem numL_inj (a b : Nat) (ha : a < 18446744073709551616) (hb : b < 18446744073709551616) (h : numL a = numL b) : a = b := by
  have h1 := less_numL a b ha hb
  have h2 := less_numL b a hb ha
  rw [h, less_irrefl] at h1
  rw [h, less_irrefl] at h2
  simp at h1 h2
  omega

/-- No number's bytes begin with another one's. -/
theorem numL_prefix (a b : Nat) (ha : a < 18446744073709551616) (hb : b < 18446744073709551616) (h : (numL b).take (numL a).length = numL a) : a = b := by
  have na := nb_le a ha
  have nb' := nb_le b hb
  have h0 : UInt8.ofNat (nb b) = UInt8.ofNat (nb a) := by
    have := congrArg List.head? h
    simpa [numL] using this
  have h1 : nb b = nb a := (u8_eq _ _ (by omega) (by omega)).1 h0
  have h2 : (numL b).length = (numL a).length := by rw [numL_length, numL_length, h1]
  rw [← h2, List.take_length] at h
  exact numL_inj a b ha hb h.symm

end Go.Proofs.YthaggdkfaglgaaaGreatDoor.BinMath

/- bin.Num: the bytes of a number, in new memory. -/
namespace Go.Proofs.YthaggdkfaglgaaaGreatDoor
set_option maxRecDepth 20000
open Go.RowKit BinMath

/-- Len64, its answer under a name. -/
theorem len64_named (n b : Nat) (w : World) (hn : n < 18446744073709551616) (hb : b = Lib.bitLen n) :
    Calls Tryz.prog 173 #[.int .u64 n] w fun e w' => e = .returned (.int .i64 b) ∧ w = w' := by
  subst hb
  exact (len64_any n w (by omega) (by omega)).mono fun _ _ ⟨h1, h2⟩ => ⟨by simpa using h1, h2.symm⟩

theorem made_bytes (m : Nat) : (madeCells (Value.int IntKind.u8 0).cells ((m + 1) * 1)).toList = .int .u8 0 :: List.replicate m (.int .u8 0) := by
  have h : ∀ k, (madeCells (Value.int IntKind.u8 0).cells k).toList = List.replicate k (.int .u8 0) := by
    intro k
    refine List.ext_getElem (by simp [madeCells]) fun j h1 h2 => ?_
    simp [madeCells, Value.cells, Nat.mod_one]
  rw [Nat.mul_one, h, List.replicate_succ]

/-- The row of the loop: the head, the places that are still 0, the bytes that are there. -/
def rowAt (m n i : Nat) : List Value := bv (UInt8.ofNat m) :: (List.replicate i (.int .u8 0) ++ (be (m - i) n).map bv)

theorem rowAt_step (m n i : Nat) (hi : i + 1 ≤ m) : (rowAt m n (i + 1)).set (i + 1) (.int .u8 ((n / 256 ^ (m - (i + 1)) % 256 : Nat) : Int)) = rowAt m n i := by
  unfold rowAt
  rw [set_rep]
  congr 2
  rw [show m - i = m - (i + 1) + 1 by omega, be, List.map_cons, bv_of, Nat.mod_mod]

theorem div_step (n k : Nat) : n / 256 ^ k / 256 = n / 256 ^ (k + 1) := by rw [Nat.div_div_eq_div_mul, Nat.pow_succ]

set_option maxHeartbeats 1000000 in
theorem num_any (n : Nat) (w : World) (hn : n < 18446744073709551616) :
    Calls Tryz.prog 130 #[.int .u64 n] w fun e w' => ∃ v, e = .returned v ∧ Row w' w.heap.size v (numL n) ∧ Below w.heap.size w w' := by
  obtain ⟨i0, hi, hz0, hz1, hz2⟩ := info_parts info_byte
  obtain ⟨b, hb⟩ : ∃ b, b = Lib.bitLen n := ⟨_, rfl⟩
  obtain ⟨m, hm⟩ : ∃ m, m = nb n := ⟨_, rfl⟩
  have hb64 : b ≤ 64 := by rw [hb]; exact Lib.bitLen_le n 64 (by omega) hn
  have hk8 : m ≤ 8 := by rw [hm]; exact nb_le n hn
  have hq : ((b : Int) + 7) / 8 = (m : Int) := by rw [hm, hb]; unfold nb; omega
  have HB := Lib.hid hb
  have HM := Lib.hid hm
  clear hb hm
  go_enter Tryz.func130, Tryz.ntmps130
  go_wp2_with (first | (go_at_call 173; refine (len64_named n b _ hn HB.out).mono ?_; rintro e w' ⟨rfl, rfl⟩) | (at_make; refine wpList_make_full _ rfl _ _ 27 rfl w.heap.size 5 i0 (.int .u8 0) 1 Tryz.underlying27 hi hz0 hz1 _ _ _ _ (m + 1) rfl rfl (by omega) (by omega) (by rw [hz2]; omega) (by unfold maxLen; omega) (Nat.le_refl _) ?_; intro w1 hown hgrow; (have hf0 := hown.frozenAt 0); (have hc0 := hown.cellAt 0 (by omega)); rw [made_bytes] at hown hc0; (have HO := Lib.hid hown); (have HG := Lib.hid hgrow); clear hown hgrow))
  clear hq
  go_loopw [0, 5] (fun s0 s5 wr => ∃ i : Nat, i ≤ m ∧ s5 = .int .i64 i ∧ s0 = .int .u64 ((n / 256 ^ (m - i) : Nat) : Int) ∧ wr.ownsRow w.heap.size 5 1 (.slice (some ⟨w.heap.size, 0, none⟩) (m + 1) (m + 1)) (m + 1) (rowAt m n i) ∧ Below w.heap.size w wr) (fun _ s5 _ => (intOf s5).toNat)
  case atStart =>
    refine ⟨m, Nat.le_refl _, rfl, by simp, ?_, ?_⟩
    · have h := (HO.out.stored 0 (.int .u8 (m : Int))).1
      unfold rowAt
      rw [bv_of, Nat.mod_eq_of_lt (by omega), Nat.sub_self]
      simpa [be] using h
    · exact ((Below.refl _ _).grown HG.out (Nat.le_refl _) (by simp)).setCell (by simp) _
  case round =>
    obtain ⟨i, hi', rfl, rfl, hown, hbel⟩ := hrel
    obtain ⟨q, hq⟩ : ∃ q, q = n / 256 ^ (m - i) := ⟨_, rfl⟩
    have HQ := Lib.hid hq
    rw [← hq]
    have HO2 := Lib.hid hown
    have HBe := Lib.hid hbel
    clear hf0 hc0 hq
    by_cases h0 : i = 0
    · subst h0
      clear hown hbel
      go_wp2
      go_ret
      refine ⟨_, rfl, ?_, HBe.out⟩
      have h := HO2.out
      unfold rowAt at h
      unfold Row
      rw [numL_length, ← HM.out]
      have e : numL n = UInt8.ofNat m :: be m n := by rw [numL, ← HM.out]
      rw [e]
      simpa using h
    · obtain ⟨j, rfl⟩ : ∃ j, i = j + 1 := ⟨i - 1, by omega⟩
      have hcj : ∃ u, wr.cell? ⟨w.heap.size, j + 1, none⟩ = some u := by
        have hl := hown.1
        rw [hown.cellAt (j + 1) (by omega), List.getElem?_eq_getElem (by omega)]
        exact ⟨_, rfl⟩
      obtain ⟨u, hcj⟩ := hcj
      have hfj := hown.frozenAt (j + 1)
      clear hown hbel h0
      go_wp2
      go_roundw
      case rel =>
        refine ⟨j, by omega, rfl, ?_, ?_, (HBe.out).setCell (by simp) _⟩
        · rw [show m - j = m - (j + 1) + 1 by omega, ← div_step, ← HQ.out]; simp
        · have h := (HO2.out.stored (j + 1) (.int .u8 ((q % 256 : Nat) : Int))).1
          rw [HQ.out, rowAt_step m n j hi', ← HQ.out] at h
          simpa using h
      case measure => simp [intOf]
end Go.Proofs.YthaggdkfaglgaaaGreatDoor

/- The reference's numbers and texts: the same bytes as the code's. -/
namespace Go.Proofs.YthaggdkfaglgaaaGreatDoor
set_option maxRecDepth 20000
open Go.RowKit BinMath

theorem cell_one (w : World) (x : Value) : ∀ (j : Nat) (u : Value), [x][j]? = some u → (w.alloc (.cells #[x] 5)).cell? ((⟨w.heap.size, 0, none⟩ : Addr).add j) = some u := by
  intro j u h
  cases j with
  | zero => simp at h; subst h; simp [Addr.add, World.cell?_alloc_at]
  | succ j => simp at h

end Go.Proofs.YthaggdkfaglgaaaGreatDoor

/- bin.Raw and the reference's: the bytes of a text, in new memory. -/
namespace Go.Proofs.YthaggdkfaglgaaaGreatDoor
set_option maxRecDepth 20000
open Go.RowKit BinMath

def rawL (l : List UInt8) : List UInt8 := numL l.length ++ l

set_option maxHeartbeats 1000000 in
theorem raw_any (v : Value) (l : List UInt8) (w : World) (hv : Bys w v l) (hl : l.length ≤ 140737488351232) :
    Calls Tryz.prog 132 #[v] w fun e w' => ∃ v', e = .returned v' ∧ Row w' w.heap.size v' (rawL l) ∧ Below w.heap.size w w' := by
  obtain ⟨i0, hi, hz0, hz1, hz2⟩ := info_parts info_byte
  obtain ⟨n, hn⟩ : ∃ n, n = l.length := ⟨_, rfl⟩
  have hnb := nb_le n (by omega)
  have hlen := numL_length n
  rcases hv with ⟨rfl, rfl⟩ | ⟨ad, cap, rfl, hc⟩
  · simp at hn
    subst hn
    go_enter Tryz.func132, Tryz.ntmps132
    go_wp2_with fail
    refine (num_any 0 _ (by omega)).mono ?_
    rintro e w1 ⟨u, rfl, hrow, hb1⟩
    have HR := Lib.hid hrow
    have HB := Lib.hid hb1
    clear hrow hb1
    go_wp2_with (at_builtin; refine wpList_append_own_none rfl _ _ 27 rfl w.heap.size 5 i0 1 Tryz.underlying27 hi _ _ _ rfl HR.out rfl ?_)
    go_ret
    refine ⟨_, rfl, ?_, HB.out⟩
    simpa [rawL] using HR.out
  · rw [← hn]
    have HN := Lib.hid hn
    have HC := Lib.hid hc
    have hl' : n ≤ 140737488351232 := by omega
    clear hn hc hl
    go_enter Tryz.func132, Tryz.ntmps132
    go_wp2_with fail
    refine (num_any n _ (by omega)).mono ?_
    rintro e w1 ⟨u, rfl, hrow, hb1⟩
    have hc1 : ∀ i (h : i < l.length), w1.cell? (ad.add i) = some (bv l[i]) := fun i h => by rw [hb1.cell (World.block_lt_of_cell? w _ (HC.out i h))]; exact HC.out i h
    have HR := Lib.hid hrow
    have HB := Lib.hid hb1
    have HC1 := Lib.hid hc1
    clear hrow hb1 hc1
    go_wp2_with (at_builtin; refine wpList_append_own _ rfl _ _ 27 rfl w.heap.size 5 i0 (.int .u8 0) 1 1 Tryz.underlying27 hi hz0 hz1 hz2 rfl (by decide) _ _ _ rfl HR.out ad n cap (l.map bv) rfl (by rw [List.length_map, HN.out, Nat.mul_one]) (cells_bys HC1.out) (one_bv l) (by unfold maxLen; omega) (by omega) HB.out.size ?_; intro v' w2 hown2 hgrow2 hnil2; (have HO2 := Lib.hid hown2); (have HG2 := Lib.hid hgrow2); clear hown2 hgrow2 hnil2)
    go_ret
    refine ⟨_, rfl, ?_, HB.out.grown HG2.out HB.out.size fun k hk => (HR.out.lt k hk).1⟩
    have h := HO2.out
    unfold Row rawL
    rw [← HN.out, List.length_append, List.map_append, ← HN.out]
    exact h

end Go.Proofs.YthaggdkfaglgaaaGreatDoor

/- Plain facts on registers of 32 bits and on the sums that layer 2 makes of texts. No program is named here. -/
namespace Go.Proofs.YthaggdkfaglgaaaGreatDoor.CrcMath
set_option maxRecDepth 20000

/-- The sum's polynomial, without its greatest power; the polynomial 1. -/
def D : BitVec 32 := 2197175160#32
def one : BitVec 32 := 2147483648#32

/-- One bit 0 worked through a register. -/
def S (c : BitVec 32) : BitVec 32 := (c >>> 1) ^^^ (if c.getLsbD 0 then D else 0#32)

theorem xor4 (a b c d : BitVec 32) : (a ^^^ b) ^^^ (c ^^^ d) = (a ^^^ c) ^^^ (b ^^^ d) := by ac_rfl

theorem S_xor (a b : BitVec 32) : S (a ^^^ b) = S a ^^^ S b := by
  unfold S
  rw [BitVec.ushiftRight_xor_distrib, BitVec.getLsbD_xor, xor4]
  congr 1
  cases a.getLsbD 0 <;> cases b.getLsbD 0 <;> simp

theorem S_zero : S 0#32 = 0#32 := by decide

/-- n bits 0 worked through a register. -/
def P : Nat → BitVec 32 → BitVec 32
  | 0, c => c
  | n + 1, c => S (P n c)

theorem P_xor (n : Nat) (a b : BitVec 32) : P n (a ^^^ b) = P n a ^^^ P n b := by
  induction n with
  | zero => rfl
  | succ n ih => rw [P, ih, S_xor]; rfl

theorem P_zero (n : Nat) : P n 0#32 = 0#32 := by
  induction n with
  | zero => rfl
  | succ n ih => rw [P, ih, S_zero]

theorem P_add (m n : Nat) (c : BitVec 32) : P (m + n) c = P m (P n c) := by
  induction m with
  | zero => simp [P]
  | succ m ih => rw [show m + 1 + n = (m + n) + 1 by omega, P, ih]; rfl

theorem P_S (n : Nat) (c : BitVec 32) : P n (S c) = S (P n c) := by
  have := P_add n 1 c
  simpa [P] using this.symm

/-- The product's loop: k bits of a are left. -/
def mul : Nat → BitVec 32 → BitVec 32 → BitVec 32
  | 0, _, _ => 0#32
  | k + 1, a, b => (if a.getLsbD 31 then b else 0#32) ^^^ mul k (a <<< 1) (S b)

theorem mul_zero (k : Nat) (b : BitVec 32) : mul k 0#32 b = 0#32 := by
  induction k generalizing b with
  | zero => rfl
  | succ k ih => rw [mul, show (0#32 <<< 1) = 0#32 by decide, ih]; simp

theorem mul_S (k : Nat) (a b : BitVec 32) : mul k a (S b) = S (mul k a b) := by
  induction k generalizing a b with
  | zero => exact S_zero.symm
  | succ k ih =>
    rw [mul, ih, mul, S_xor]
    cases a.getLsbD 31 <;> simp [S_zero]

theorem mul_P (k n : Nat) (a b : BitVec 32) : mul k a (P n b) = P n (mul k a b) := by
  induction n with
  | zero => rfl
  | succ n ih => rw [P, mul_S, ih]; rfl

theorem S_one (m : Nat) (h : m < 31) : S (one >>> m) = one >>> (m + 1) := by
  have : ∀ m : Fin 31, S (one >>> m.val) = one >>> (m.val + 1) := by decide +kernel
  exact this ⟨m, h⟩

theorem mul_one_at (k : Nat) (hk : k ≤ 32) (a : BitVec 32) : mul k a (one >>> (32 - k)) = a >>> (32 - k) := by
  induction k generalizing a with
  | zero =>
    rw [mul]
    apply BitVec.eq_of_getLsbD_eq
    intro i hi
    simp
  | succ k ih =>
    obtain ⟨m, hm⟩ : ∃ m, m = 32 - (k + 1) := ⟨_, rfl⟩
    rw [← hm, mul]
    have h1 : mul k (a <<< 1) (S (one >>> m)) = (a <<< 1) >>> (m + 1) := by
      rcases Nat.eq_zero_or_pos k with h0 | h0
      · subst h0
        have : m + 1 = 32 := by omega
        rw [mul, this]
        apply BitVec.eq_of_getLsbD_eq
        intro i hi
        simp
      · rw [S_one m (by omega), show m + 1 = 32 - k by omega]
        exact ih (by omega) _
    rw [h1]
    apply BitVec.eq_of_getLsbD_eq
    intro i hi
    have ho : (one >>> m).getLsbD i = decide (m + i = 31) := by
      rw [BitVec.getLsbD_ushiftRight]
      have : ∀ j : Fin 64, one.getLsbD j.val = decide (j.val = 31) := by decide +kernel
      exact this ⟨m + i, by omega⟩
    by_cases he : m + i = 31
    · have h4 : ((a <<< 1) >>> (m + 1)).getLsbD i = false := by
        rw [BitVec.getLsbD_ushiftRight, BitVec.getLsbD_of_ge _ _ (by omega)]
      rw [BitVec.getLsbD_ushiftRight, he, BitVec.getLsbD_xor, h4]
      cases ha : a.getLsbD 31
      · simp
      · simp only [if_true, ho]
        simp [he]
    · have h3 : a.getLsbD (m + i) = ((a <<< 1) >>> (m + 1)).getLsbD i := by
        simp only [BitVec.getLsbD_ushiftRight, BitVec.getLsbD_shiftLeft]
        by_cases hl : m + i < 31
        · have e1 : m + 1 + i - 1 = m + i := by omega
          simp [e1, show m + 1 + i < 32 by omega]
        · rw [BitVec.getLsbD_of_ge _ _ (by omega)]
          simp
          omega
      rw [BitVec.getLsbD_ushiftRight, h3, BitVec.getLsbD_xor]
      cases ha : a.getLsbD 31 <;> simp [ho, he]

/-- The product of two registers. -/
def times (a b : BitVec 32) : BitVec 32 := mul 32 a b

theorem times_one (a : BitVec 32) : times a one = a := by
  have := mul_one_at 32 (by omega) a
  simpa [times] using this

theorem times_P (n : Nat) (a : BitVec 32) : times a (P n one) = P n a := by
  unfold times
  rw [mul_P]
  exact congrArg (P n) (times_one a)

theorem times_PP (m n : Nat) : times (P m one) (P n one) = P (n + m) one := by rw [times_P, P_add]

/-- A byte in the lowest bits of a register. -/
def zx (x : UInt8) : BitVec 32 := BitVec.ofNat 32 x.toNat

theorem zx_xor (a b : UInt8) : zx (a ^^^ b) = zx a ^^^ zx b := by
  apply BitVec.eq_of_toNat_eq
  have ha := a.toNat_lt
  have hb := b.toNat_lt
  have hx : a.toNat ^^^ b.toNat < 2 ^ 8 := Nat.xor_lt_two_pow ha hb
  simp [zx, BitVec.toNat_xor, BitVec.toNat_ofNat]

/-- A text worked through a register. -/
def R : List UInt8 → BitVec 32 → BitVec 32
  | [], c => c
  | x :: l, c => R l (P 8 (c ^^^ zx x))

theorem R_append (l m : List UInt8) (c : BitVec 32) : R (l ++ m) c = R m (R l c) := by
  induction l generalizing c with
  | nil => rfl
  | cons x l ih => exact ih _

theorem R_xor (l : List UInt8) (c d : BitVec 32) : R l (c ^^^ d) = R l c ^^^ P (8 * l.length) d := by
  induction l generalizing c d with
  | nil => rfl
  | cons x l ih =>
    rw [R, show c ^^^ d ^^^ zx x = (c ^^^ zx x) ^^^ d by ac_rfl, P_xor, ih, ← P_add]
    rw [R, List.length_cons, show 8 * l.length + 8 = 8 * (l.length + 1) by omega]

/-- The sum of a text, and of a text behind another sum. -/
def more (s : BitVec 32) (l : List UInt8) : BitVec 32 := ~~~ (R l (~~~ s))
def sum (l : List UInt8) : BitVec 32 := more 0#32 l
def join (a b : BitVec 32) (n : Nat) : BitVec 32 := P (8 * n) a ^^^ b

theorem not_xor (a b : BitVec 32) : ~~~ (a ^^^ b) = b ^^^ ~~~ a := by
  apply BitVec.eq_of_getLsbD_eq
  intro i hi
  simp [hi]
  cases a[i] <;> cases b[i] <;> rfl

theorem more_sum (x y : List UInt8) : more (sum x) y = sum (x ++ y) := by
  unfold sum
  unfold more
  rw [BitVec.not_not, R_append]

theorem not_not_xor (a : BitVec 32) : (~~~ 0#32) ^^^ ~~~ a = a := by
  apply BitVec.eq_of_getLsbD_eq
  intro i hi
  rw [BitVec.getLsbD_xor, BitVec.getLsbD_not, BitVec.getLsbD_not]
  cases a.getLsbD i <;> simp [hi]

theorem join_sum (x y : List UInt8) : join (sum x) (sum y) y.length = sum (x ++ y) := by
  have e : R x (~~~ 0#32) = (~~~ 0#32) ^^^ sum x := by
    unfold sum
    unfold more
    exact (not_not_xor _).symm
  rw [join]
  show _ = ~~~ (R (x ++ y) (~~~ 0#32))
  rw [R_append, e, R_xor, not_xor]
  rfl

theorem join_join (a b c : BitVec 32) (n m : Nat) : join (join a b n) c m = join a (join b c m) (n + m) := by
  unfold join
  rw [P_xor, ← P_add, show 8 * m + 8 * n = 8 * (n + m) by omega]
  ac_rfl

theorem join_nil (s : BitVec 32) : join s 0#32 0 = s := by simp [join, P]

theorem sum_nil : sum [] = 0#32 := by decide
theorem more_nil (s : BitVec 32) : more s [] = s := by simp [more, R]

/-- Half a byte, by the table. -/
def T (k : Nat) : BitVec 32 := P 4 (BitVec.ofNat 32 k)

theorem S_up (x : BitVec 32) (k : Nat) (h : x.toNat < 2 ^ 28) (hk : k < 4) : S (x <<< (k + 1)) = x <<< k := by
  have h0 : (x <<< (k + 1)).getLsbD 0 = false := by simp
  unfold S
  rw [h0]
  apply BitVec.eq_of_getLsbD_eq
  intro i hi
  simp only [Bool.false_eq_true, if_false, BitVec.xor_zero, BitVec.getLsbD_ushiftRight, BitVec.getLsbD_shiftLeft]
  by_cases h1 : i < 31
  · have e : 1 + i - (k + 1) = i - k := by omega
    rw [e]
    simp only [show 1 + i < 32 by omega, hi, decide_true, Bool.true_and]
    by_cases h2 : i < k
    · simp [h2, show 1 + i < k + 1 by omega]
    · simp [h2, show ¬ 1 + i < k + 1 by omega]
  · have hi31 : i = 31 := by omega
    subst hi31
    have : x.getLsbD (31 - k) = false := by
      rw [← BitVec.testBit_toNat]
      exact Nat.testBit_lt_two_pow (Nat.lt_of_lt_of_le h (Nat.pow_le_pow_right (by decide) (by omega)))
    simp [this]

theorem half_eq (c : BitVec 32) : (c >>> 4) ^^^ T (c.toNat % 16) = P 4 c := by
  have hx : (c >>> 4).toNat < 2 ^ 28 := by
    rw [BitVec.toNat_ushiftRight, Nat.shiftRight_eq_div_pow]
    have := c.isLt
    omega
  have e : c = ((c >>> 4) <<< 4) ^^^ BitVec.ofNat 32 (c.toNat % 16) := by
    apply BitVec.eq_of_getLsbD_eq
    intro i hi
    have ht : (c.toNat % 16).testBit i = (decide (i < 4) && c.getLsbD i) := by
      rw [show (16 : Nat) = 2 ^ 4 by decide, Nat.testBit_mod_two_pow, BitVec.testBit_toNat]
    rw [BitVec.getLsbD_xor, BitVec.getLsbD_ofNat, ht, BitVec.getLsbD_shiftLeft, BitVec.getLsbD_ushiftRight]
    by_cases h : i < 4
    · simp [h, hi]
    · have e4 : 4 + (i - 4) = i := by omega
      simp [h, hi, e4]
  have h4 : P 4 ((c >>> 4) <<< 4) = c >>> 4 := by
    show S (S (S (S ((c >>> 4) <<< (3 + 1))))) = _
    rw [S_up _ 3 hx (by omega), S_up _ 2 hx (by omega), S_up _ 1 hx (by omega), S_up _ 0 hx (by omega)]
    simp
  conv => rhs; rw [e, P_xor, h4]
  rfl

/-- A whole byte, by the table. -/
def half (c : BitVec 32) : BitVec 32 := (c >>> 4) ^^^ T (c.toNat % 16)
theorem half_half (c : BitVec 32) : half (half c) = P 8 c := by
  unfold half
  rw [half_eq, half_eq, ← P_add]

/- Of three texts. -/
def x3 : List UInt8 → List UInt8 → List UInt8 → List UInt8
  | a :: l, b :: m, c :: n => (a ^^^ b ^^^ c) :: x3 l m n
  | _, _, _ => []

theorem R_x3 (l m n : List UInt8) (a b c : BitVec 32) (h1 : m.length = l.length) (h2 : n.length = l.length) : R (x3 l m n) (a ^^^ b ^^^ c) = R l a ^^^ R m b ^^^ R n c := by
  induction l generalizing m n a b c with
  | nil =>
    obtain rfl := List.eq_nil_of_length_eq_zero h1
    obtain rfl := List.eq_nil_of_length_eq_zero h2
    rfl
  | cons x l ih =>
    cases m with
    | nil => simp at h1
    | cons y m =>
      cases n with
      | nil => simp at h2
      | cons z n =>
        rw [x3, R, zx_xor, zx_xor, R, R, R]
        rw [show (a ^^^ b ^^^ c) ^^^ (zx x ^^^ zx y ^^^ zx z) = (a ^^^ zx x) ^^^ (b ^^^ zx y) ^^^ (c ^^^ zx z) by ac_rfl, P_xor, P_xor]
        exact ih m n _ _ _ (by simpa using h1) (by simpa using h2)

theorem sum_x3 (l m n : List UInt8) (h1 : m.length = l.length) (h2 : n.length = l.length) : sum (x3 l m n) = sum l ^^^ sum m ^^^ sum n := by
  have h := R_x3 l m n (~~~ 0#32) (~~~ 0#32) (~~~ 0#32) h1 h2
  have e : (~~~ 0#32) ^^^ (~~~ 0#32) ^^^ (~~~ 0#32) = ~~~ 0#32 := by decide
  rw [e] at h
  unfold sum
  unfold more
  rw [h]
  apply BitVec.eq_of_getLsbD_eq
  intro i hi
  simp only [BitVec.getLsbD_xor, BitVec.getLsbD_not, hi, decide_true, Bool.true_and]
  cases (R l (~~~ 0#32)).getLsbD i <;> cases (R m (~~~ 0#32)).getLsbD i <;> cases (R n (~~~ 0#32)).getLsbD i <;> rfl

/- Of a run of turned bits. -/
theorem S_inj (a : BitVec 32) (h : S a = 0#32) : a = 0#32 := by
  have h31 : (S a).getLsbD 31 = a.getLsbD 0 := by
    unfold S
    rw [BitVec.getLsbD_xor, BitVec.getLsbD_ushiftRight, BitVec.getLsbD_of_ge _ (1 + 31) (by omega)]
    cases a.getLsbD 0
    · simp
    · decide
  rw [h] at h31
  have h0 : a.getLsbD 0 = false := by simpa using h31.symm
  unfold S at h
  rw [h0] at h
  apply BitVec.eq_of_getLsbD_eq
  intro i hi
  cases i with
  | zero => rw [h0]; simp
  | succ i =>
    have := congrArg (fun v : BitVec 32 => v.getLsbD i) h
    simp [BitVec.getLsbD_ushiftRight] at this
    rw [show i + 1 = 1 + i by omega, this]
    simp

theorem P_inj (n : Nat) (a : BitVec 32) (h : P n a = 0#32) : a = 0#32 := by
  induction n with
  | zero => exact h
  | succ n ih => exact ih (S_inj _ h)

theorem P_bit (k : Nat) (hk : k < 32) : P k (1#32 <<< k) = 1#32 := by
  have : ∀ k : Fin 32, P k.val (1#32 <<< k.val) = 1#32 := by decide +kernel
  exact this ⟨k, hk⟩

theorem P_bit_at (n k : Nat) (hk : k < 32) (hn : k ≤ n) : P n (1#32 <<< k) = P (n - k) 1#32 := by
  rw [show n = (n - k) + k by omega, P_add, P_bit k hk]
  simp

/-- The bit k of byte q turned. -/
theorem R_turn (l : List UInt8) (q k : Nat) (y : UInt8) (hq : l[q]? = some y) (hk : k < 8) (z : UInt8) (hz : zx z = zx y ^^^ (1#32 <<< k)) (c : BitVec 32) : R (l.set q z) c = R l c ^^^ P (8 * l.length - (8 * q + k)) 1#32 := by
  induction l generalizing q c with
  | nil => simp at hq
  | cons x l ih =>
    cases q with
    | zero =>
      simp at hq
      subst hq
      rw [List.set_cons_zero, R, hz, ← BitVec.xor_assoc, P_xor, R_xor, ← P_add, P_bit_at _ k (by omega) (by omega), R, List.length_cons]
      congr 2
      omega
    | succ q =>
      rw [List.set_cons_succ, R, R, ih q (by simpa using hq), List.length_cons]
      congr 2
      omega

/-- The lowest i bits of t. -/
def low (t : BitVec 32) : Nat → BitVec 32
  | 0 => 0#32
  | i + 1 => low t i ^^^ (if t.getLsbD i then 1#32 <<< i else 0#32)

theorem low_bit (t : BitVec 32) (i j : Nat) (hi : i ≤ 32) : (low t i).getLsbD j = (decide (j < i) && t.getLsbD j) := by
  induction i with
  | zero => simp [low]
  | succ i ih =>
    rw [low, BitVec.getLsbD_xor, ih (by omega)]
    by_cases hj : j = i
    · subst hj
      cases h : t.getLsbD j <;> simp
      omega
    · have e : decide (j < i + 1) = decide (j < i) := by rw [decide_eq_decide]; omega
      rw [e]
      cases h : t.getLsbD i
      · simp
      · have h2 : (1#32 <<< i).getLsbD j = false := by
          simp
          omega
        rw [if_pos rfl, h2]
        simp

theorem low_ne (t : BitVec 32) (i : Nat) (hi : i < 32) (h : t.getLsbD i = true) : low t (i + 1) ≠ 0#32 := by
  intro h0
  have := low_bit t (i + 1) i (by omega)
  rw [h0, h] at this
  simp at this

end Go.Proofs.YthaggdkfaglgaaaGreatDoor.CrcMath

/- Proved here: what the operations on registers give; the reference's steps; the program's product of two registers and of zeros; the sums of both. -/
namespace Go.Proofs.YthaggdkfaglgaaaGreatDoor
set_option maxRecDepth 20000
open Go.RowKit CrcMath

/-- A register as a number. -/
def rv (x : BitVec 32) : Int := (x.toNat : Int)

theorem rv_bd (x : BitVec 32) : 0 ≤ rv x ∧ rv x ≤ 4294967295 := by
  have := x.isLt
  unfold rv
  omega

theorem rv_inj {x y : BitVec 32} (h : rv x = rv y) : x = y := by
  apply BitVec.eq_of_toNat_eq
  unfold rv at h
  omega

theorem rv_eq (x y : BitVec 32) : (rv x == rv y) = decide (x = y) := by
  rw [Bool.eq_iff_iff]
  simp only [beq_iff_eq, decide_eq_true_eq]
  exact ⟨rv_inj, fun h => by rw [h]⟩

/-- A number that came in is a register. -/
theorem of_u32 (n : Int) (h : (Lit.int .u32 n).wf = true) : ∃ x, n = rv x := by
  have hb : 0 ≤ n ∧ n < 4294967296 := by
    have := bounds_u32 h
    omega
  refine ⟨BitVec.ofNat 32 n.toNat, ?_⟩
  unfold rv
  rw [BitVec.toNat_ofNat]
  omega

theorem rv_xor (x y : BitVec 32) : bits .xor .u32 (rv x) (rv y) = rv (x ^^^ y) := by
  unfold rv
  rw [u32_xor_nat _ _ x.isLt y.isLt, BitVec.toNat_xor]

theorem rv_xor' {a b : Int} {x y : BitVec 32} (ha : a = rv x) (hb : b = rv y) : bits .xor .u32 a b = rv (x ^^^ y) := by
  rw [ha, hb, rv_xor]

theorem rv_shr1 (x : BitVec 32) : rv x / (2 : Int) = rv (x >>> 1) := by
  unfold rv
  rw [BitVec.toNat_ushiftRight, Nat.shiftRight_eq_div_pow]
  omega

theorem rv_shr4 (x : BitVec 32) : rv x / (16 : Int) = rv (x >>> 4) := by
  unfold rv
  rw [BitVec.toNat_ushiftRight, Nat.shiftRight_eq_div_pow]
  omega

theorem rv_D : 2197175160 = rv D := by decide +kernel

theorem rv_and (x : BitVec 32) (n : Nat) (h : n < 4294967296) : bits .and .u32 (rv x) (n : Int) = ((x.toNat &&& n : Nat) : Int) := by
  unfold rv
  rw [u32_and_nat _ _ x.isLt h]

theorem rv_odd (x : BitVec 32) : (bits .and .u32 (rv x) 1 == 1) = x.getLsbD 0 := by
  have h := rv_and x 1 (by decide)
  rw [nat_mask1] at h
  have e : bits .and .u32 (rv x) 1 = ((x.toNat % 2 : Nat) : Int) := h
  rw [e, ← BitVec.testBit_toNat, Nat.testBit_zero, Bool.eq_iff_iff]
  simp
  omega

theorem rv_S_odd (x : BitVec 32) (h : x.getLsbD 0 = true) : bits .xor .u32 (rv x / 2) 2197175160 = rv (S x) := by
  rw [rv_xor' (rv_shr1 x) rv_D]
  unfold S
  rw [h]
  rfl

theorem rv_S_even (x : BitVec 32) (h : x.getLsbD 0 = false) : rv x / 2 = rv (S x) := by
  rw [rv_shr1]
  unfold S
  rw [h]
  simp

theorem rv_ne (x : BitVec 32) : (rv x != 0) = !decide (x = 0#32) := by
  have h := rv_eq x 0#32
  have e : rv 0#32 = 0 := by decide
  rw [e] at h
  rw [← h]
  rfl

theorem rv_top (x : BitVec 32) : (bits .and .u32 (rv x) 2147483648 != 0) = x.getLsbD 31 := by
  have h := rv_and x 2147483648 (by decide)
  have e : bits .and .u32 (rv x) 2147483648 = ((x.toNat / 2147483648 % 2 * 2147483648 : Nat) : Int) := by
    have := nat_bit 31 x.toNat
    rw [show (2 : Nat) ^ 31 = 2147483648 by decide] at this
    rw [← this]
    exact h
  rw [e, ← BitVec.testBit_toNat, Nat.testBit_eq_decide_div_mod_eq, show (2 : Nat) ^ 31 = 2147483648 by decide, Bool.eq_iff_iff]
  simp
  omega

/-- How many rounds a factor brings. -/
def left : Nat → BitVec 32 → Nat
  | 0, _ => 0
  | k + 1, v => if v = 0#32 then 0 else 1 + left k (v <<< 1)

theorem left_stays (k : Nat) (v : BitVec 32) (h : v <<< k = 0#32) : left (k + 1) v = left k v := by
  induction k generalizing v with
  | zero =>
    simp at h
    subst h
    simp [left]
  | succ k ih =>
    have : (v <<< 1) <<< k = 0#32 := by rw [← BitVec.shiftLeft_add, Nat.add_comm]; exact h
    have e := ih _ this
    rw [left, e, left]

theorem left_step (v : BitVec 32) (h : v ≠ 0#32) : left 32 (v <<< 1) < left 32 v := by
  have h2 : left 32 (v <<< 1) = left 31 (v <<< 1) := by
    apply left_stays
    rw [← BitVec.shiftLeft_add]
    apply BitVec.eq_of_getLsbD_eq
    intro i hi
    simp
  rw [h2]
  conv => rhs; rw [left, if_neg h]
  omega

theorem rv_shl1 (x : BitVec 32) : rv x * (2 : Int) % (4294967296 : Int) = rv (x <<< 1) := by
  unfold rv
  rw [BitVec.toNat_shiftLeft, Nat.shiftLeft_eq]
  omega

theorem ofInt_rv (x : BitVec 32) : BitVec.ofInt 32 (rv x) = x := by
  unfold rv
  simp

theorem ret_u32 {a b : Int} (h : a = b) : Ending.returned (.int .u32 a) = .returned (.int .u32 b) := by rw [h]

def TimesAt (x y : BitVec 32) (s0 s1 s5 : Value) : Prop := ∃ i : Nat, i ≤ 32 ∧ s0 = .int .u32 (rv (x <<< i)) ∧ s1 = .int .u32 (rv (P i y)) ∧ ∃ z, s5 = .int .u32 (rv z) ∧ z ^^^ mul (32 - i) (x <<< i) (P i y) = times x y

theorem step_odd (e f m : Nat) (h : m % 2 = 1) : f + e + (e + e) * (m / 2) = f + e * m := by
  obtain ⟨k, rfl⟩ : ∃ k, m = k + k + 1 := ⟨m / 2, by omega⟩
  rw [show (k + k + 1) / 2 = k by omega, Nat.mul_add, Nat.mul_add, Nat.add_mul, Nat.mul_one]
  omega
theorem step_even (e f m : Nat) (h : m % 2 = 0) : f + (e + e) * (m / 2) = f + e * m := by
  obtain ⟨k, rfl⟩ : ∃ k, m = k + k := ⟨m / 2, by omega⟩
  rw [show (k + k) / 2 = k by omega, Nat.mul_add, Nat.add_mul]

theorem u64_odd (m : Nat) (hm : m < 18446744073709551616) : (bits .and .u64 (m : Int) 1 == 1) = decide (m % 2 = 1) := by
  have h := u64_and_nat m 1 hm (by decide)
  rw [nat_mask1] at h
  have e : bits .and .u64 (m : Int) 1 = ((m % 2 : Nat) : Int) := h
  rw [e, Bool.eq_iff_iff]
  simp
  omega

/-- The program's register of n bytes 0. -/
def ZerosAt (n : Nat) (s0 s3 s4 : Value) : Prop := ∃ m f e : Nat, m < 18446744073709551616 ∧ f + e * m = 8 * n ∧ s0 = .int .u64 m ∧ s3 = .int .u32 (rv (P f one)) ∧ s4 = .int .u32 (rv (P e one))

/-- The reference's. -/
def JoinAt (x : BitVec 32) (n : Nat) (s0 s2 : Value) : Prop := ∃ i : Nat, i ≤ n ∧ s0 = .int .u32 (rv (P (8 * i) x)) ∧ s2 = .int .u64 ((n - i : Nat) : Int)

end Go.Proofs.YthaggdkfaglgaaaGreatDoor

/- Proved here: the sums of the program (by its table) and of the reference are those of the plain words, of any bytes wherever they lie; what every law asks first. -/
namespace Go.Proofs.YthaggdkfaglgaaaGreatDoor
set_option maxRecDepth 20000
open Go.RowKit CrcMath

/-- The table's cells. -/
def Tab (w : World) : Prop := ∀ j : Nat, j < 16 → w.cell? ⟨0, j, none⟩ = some (.int .u32 (rv (T j)))

theorem Tab.below {w w' : World} (h : Tab w) {B : Nat} (hB : w.heap.size ≤ B) (hb : Below B w w') : Tab w' := fun j hj => by
  have h1 := h j hj
  rw [hb.cell (p := ⟨0, j, none⟩) (Nat.lt_of_lt_of_le (World.block_lt_of_cell? w _ h1) hB)]
  exact h1

theorem zx_rv (b : UInt8) : (b.toNat : Int) = rv (zx b) := by
  unfold rv zx
  have := b.toNat_lt
  rw [BitVec.toNat_ofNat]
  omega

theorem rv_and15 (y : BitVec 32) : bits .and .u32 (rv y) 15 = ((y.toNat % 16 : Nat) : Int) := by
  have h := rv_and y 15 (by decide)
  rw [nat_mask4] at h
  exact h

theorem rv_not (x : BitVec 32) : bits .xor .u32 IntKind.u32.max (rv x) = rv (~~~ x) := by
  have e : IntKind.u32.max = rv (4294967295#32) := by decide +kernel
  rw [e, rv_xor]
  congr 1

/-- What a loop over the bytes of a text has done so far. -/
def ReadAt (c : BitVec 32) (l : List UInt8) (s5 s12 : Value) : Prop := ∃ i : Nat, i ≤ l.length ∧ s12 = .int .i64 i ∧ s5 = .int .u32 (rv (R (l.take i) c))

theorem R_snoc (l : List UInt8) (i : Nat) (h : i < l.length) (c : BitVec 32) : R (l.take (i + 1)) c = P 8 (R (l.take i) c ^^^ zx l[i]) := by
  rw [List.take_succ_eq_append_getElem h, R_append]
  rfl

set_option maxHeartbeats 1000000 in
theorem more_any (x : BitVec 32) (v : Value) (l : List UInt8) (w : World) (hv : Bys w v l) (hl : l.length ≤ 140737488355328) (ht : Tab w) :
    Calls Tryz.prog 207 #[.int .u32 (rv x), v] w fun e w' => e = .returned (.int .u32 (rv (more x l))) ∧ w = w' := by
  have HT := Lib.hid ht
  clear ht
  obtain ⟨n, hn⟩ : ∃ n, n = l.length := ⟨_, rfl⟩
  have hb : (∃ ad cap, v = .slice ad n cap ∧ ∀ (i : Nat) (h : i < l.length), ∃ a, ad = some a ∧ w.cell? (a.add i) = some (bv l[i])) := by
    rcases hv with ⟨rfl, rfl⟩ | ⟨ad, cap, rfl, hc⟩
    · exact ⟨none, 0, by simp at hn; subst hn; rfl, fun i h => by simp at h⟩
    · exact ⟨some ad, cap, by rw [hn], fun i h => ⟨ad, rfl, hc i h⟩⟩
  obtain ⟨ad, cap, rfl, hc⟩ := hb
  have HC := Lib.hid hc
  have HN := Lib.hid hn
  have hn1 : n ≤ 140737488355328 := by omega
  clear hc hn hv hl
  go_enter Tryz.func207, Tryz.ntmps207
  go_wp2
  go_loop [5, 12] (fun s5 s12 => ReadAt (~~~ x) l s5 s12) (fun _ s12 => n - (intOf s12).toNat)
  case atStart => exact ⟨0, by omega, rfl, by rw [rv_not]; rfl⟩
  case round =>
    obtain ⟨i, hi, rfl, rfl⟩ := hrel
    obtain ⟨c, hc⟩ : ∃ c, c = R (l.take i) (~~~ x) := ⟨_, rfl⟩
    rw [← hc]
    have HR := Lib.hid hc
    clear hc
    by_cases hlt : i < n
    · have hil : i < l.length := by have := HN.out; omega
      obtain ⟨a, rfl, hcell⟩ := HC.out i hil
      obtain ⟨b, hb⟩ : ∃ b, b = l[i] := ⟨_, rfl⟩
      obtain ⟨k, hk⟩ : ∃ k : Nat, k = b.toNat := ⟨_, rfl⟩
      rw [← hb] at hcell
      rw [bv, ← hk] at hcell
      have hk255 : k ≤ 255 := by have := b.toNat_lt; omega
      obtain ⟨y, hy⟩ : ∃ y, y = c ^^^ zx b := ⟨_, rfl⟩
      obtain ⟨j, hj⟩ : ∃ j, j = y.toNat % 16 := ⟨_, rfl⟩
      obtain ⟨t, ht⟩ : ∃ t, t = T j := ⟨_, rfl⟩
      obtain ⟨z, hz⟩ : ∃ z, z = half y := ⟨_, rfl⟩
      obtain ⟨j2, hj2⟩ : ∃ j, j = z.toNat % 16 := ⟨_, rfl⟩
      obtain ⟨t2, ht2⟩ : ∃ t, t = T j2 := ⟨_, rfl⟩
      obtain ⟨r, hr⟩ : ∃ r, r = half z := ⟨_, rfl⟩
      have f1 : bits .xor .u32 (rv c) (k : Int) = rv y := by rw [hk, zx_rv, rv_xor, hy]
      have f2 : bits .and .u32 (rv y) 15 = (j : Int) := by rw [rv_and15, hj]
      have f3 : w.cell? ⟨0, j, none⟩ = some (.int .u32 (rv t)) := by rw [ht]; exact HT.out j (by omega)
      have f4 : bits .xor .u32 (rv y / 16) (rv t) = rv z := by rw [rv_xor' (rv_shr4 y) rfl, hz, half, ht, hj]
      have f5 : bits .and .u32 (rv z) 15 = (j2 : Int) := by rw [rv_and15, hj2]
      have f6 : w.cell? ⟨0, j2, none⟩ = some (.int .u32 (rv t2)) := by rw [ht2]; exact HT.out j2 (by omega)
      have f7 : bits .xor .u32 (rv z / 16) (rv t2) = rv r := by rw [rv_xor' (rv_shr4 z) rfl, hr, half, ht2, hj2]
      have hj16 : j < 16 := by omega
      have hj216 : j2 < 16 := by omega
      have hend : r = R (l.take (i + 1)) (~~~ x) := by rw [R_snoc l i hil, ← hb, ← HR.out, ← hy, ← half_half, hr, hz]
      have HE := Lib.hid hend
      have b0 := (rv_bd y).1
      have b1 := (rv_bd y).2
      have b2 := (rv_bd z).1
      have b3 := (rv_bd z).2
      clear hb hk hy hj ht hz hj2 ht2 hr hend
      go_wp2
      go_round
      case rel => exact ⟨i + 1, by omega, by go_num, by rw [HE.out]⟩
      case measure => simp [intOf]; omega
    · go_wp2
      go_ret
      exact ⟨ret_u32 (by rw [rv_not, HR.out, List.take_of_length_le (by have := HN.out; omega)]; rfl), rfl⟩

theorem sum_any (v : Value) (l : List UInt8) (w : World) (hv : Bys w v l) (hl : l.length ≤ 140737488355328) (ht : Tab w) :
    Calls Tryz.prog 183 #[v] w fun e w' => e = .returned (.int .u32 (rv (sum l))) ∧ w = w' := by
  have HT := Lib.hid ht
  have HV := Lib.hid hv
  clear ht hv
  go_enter Tryz.func183, Tryz.ntmps183
  go_wp2_with fail
  refine (more_any 0#32 v l _ HV.out hl HT.out).mono ?_
  rintro e w' ⟨rfl, rfl⟩
  go_wp2
  go_ret
  exact ⟨rfl, rfl⟩

def nine : List UInt8 := [49, 50, 51, 52, 53, 54, 55, 56, 57]
theorem nine_sum : rv (sum nine) = 3808858755 := by decide +kernel
theorem five_three : rv (join 5#32 3#32 0) = 6 := by decide +kernel

end Go.Proofs.YthaggdkfaglgaaaGreatDoor

/- How bytes are read: numbers and texts, with their first faults. No program is named here. -/
namespace Go.Proofs.YthaggdkfaglgaaaGreatDoor.BinMath
set_option maxRecDepth 20000

/-- m bytes more of a number, of which acc was read. -/
def digs : Nat → Bool → Nat → List UInt8 → Except Nat Nat
  | 0, _, acc, _ => .ok acc
  | _ + 1, _, _, [] => .error 2
  | m + 1, first, acc, c :: r => if first && c.toNat == 0 then .error 3 else digs m false (acc * 256 + c.toNat) r

/-- A number, and how many bytes it took; or the first fault. -/
def pNum : List UInt8 → Except Nat (Nat × Nat)
  | [] => .error 2
  | k :: r => if 8 < k.toNat then .error 3 else match digs k.toNat true 0 r with
    | .ok n => .ok (n, k.toNat + 1)
    | .error c => .error c

/-- A text of at most 'most' bytes, and how many bytes it took with its length; or the first fault. -/
def pText (most : Nat) (l : List UInt8) : Except Nat (List UInt8 × Nat) :=
  match pNum l with
  | .error c => .error c
  | .ok (n, u) => if most < n then .error 4 else if l.length - u < n then .error 2 else .ok ((l.drop u).take n, u + n)

theorem digs_used : ∀ (m : Nat) (first : Bool) (acc : Nat) (r : List UInt8) (n : Nat), digs m first acc r = .ok n → m ≤ r.length
  | 0, _, _, _, _, _ => Nat.zero_le _
  | m + 1, first, acc, [], n, h => by simp [digs] at h
  | m + 1, first, acc, c :: r, n, h => by
    unfold digs at h
    split at h
    · cases h
    · have := digs_used m false _ r n h
      simp; omega

theorem digs_lt : ∀ (m : Nat) (first : Bool) (acc : Nat) (r : List UInt8) (n j : Nat), acc < 256 ^ j → digs m first acc r = .ok n → n < 256 ^ (j + m)
  | 0, _, acc, _, n, j, ha, h => by simp [digs] at h; subst h; simpa using ha
  | m + 1, first, acc, [], n, j, ha, h => by simp [digs] at h
  | m + 1, first, acc, c :: r, n, j, ha, h => by
    unfold digs at h
    split at h
    · cases h
    · have hc := c.toNat_lt
      have := digs_lt m false (acc * 256 + c.toNat) r n (j + 1) (by rw [Nat.pow_succ]; omega) h
      rwa [show j + (m + 1) = j + 1 + m by omega]

theorem pNum_used {l : List UInt8} {n u : Nat} (h : pNum l = .ok (n, u)) : u ≤ l.length ∧ n < 18446744073709551616 ∧ 1 ≤ u := by
  cases l with
  | nil => simp [pNum] at h
  | cons k r =>
    simp only [pNum] at h
    split at h
    · cases h
    · rename_i hk
      cases hd : digs k.toNat true 0 r with
      | error c => rw [hd] at h; cases h
      | ok m =>
        rw [hd] at h
        simp at h
        obtain ⟨rfl, rfl⟩ := h
        have h1 := digs_used _ _ _ _ _ hd
        have h2 := digs_lt _ _ _ _ _ 0 (by simp) hd
        refine ⟨by simp; omega, ?_, by omega⟩
        refine Nat.lt_of_lt_of_le h2 ?_
        rw [Nat.zero_add, show (18446744073709551616 : Nat) = 256 ^ 8 by decide]
        exact Nat.pow_le_pow_right (by decide) (by omega)

theorem pText_used {most : Nat} {l t : List UInt8} {u : Nat} (h : pText most l = .ok (t, u)) : u ≤ l.length ∧ t.length ≤ most ∧ t.length ≤ l.length := by
  unfold pText at h
  cases hn : pNum l with
  | error c => rw [hn] at h; cases h
  | ok p =>
    obtain ⟨n, v⟩ := p
    rw [hn] at h
    have hu := pNum_used hn
    simp only at h
    split at h
    · cases h
    · split at h
      · cases h
      · simp at h
        obtain ⟨rfl, rfl⟩ := h
        simp
        omega

/-- Reading what Num laid. -/
theorem digs_be (k : Nat) : ∀ (m n acc : Nat) (first : Bool) (r : List UInt8), m = k → (first = true → k ≠ 0 → 256 ^ (k - 1) ≤ n) → n < 256 ^ k → digs m first acc (be k n ++ r) = .ok (acc * 256 ^ k + n) := by
  induction k with
  | zero => intro m n acc first r hm _ hn; subst hm; simp at hn; subst hn; simp [digs]
  | succ k ih =>
    intro m n acc first r hm hf hn
    subst hm
    have ht := top_lt k n hn
    have hp : 0 < 256 ^ k := Nat.pow_pos (by decide)
    have hdm := Nat.div_add_mod n (256 ^ k)
    have hml := Nat.mod_lt n hp
    have hb : (UInt8.ofNat (n / 256 ^ k % 256)).toNat = n / 256 ^ k := by simp [Nat.mod_eq_of_lt ht]
    simp only [be, List.cons_append, digs, hb]
    have hne : (first && n / 256 ^ k == 0) = false := by
      cases first with
      | false => rfl
      | true =>
        have := hf rfl (by omega)
        rw [Nat.add_sub_cancel] at this
        have : 1 ≤ n / 256 ^ k := (Nat.le_div_iff_mul_le hp).2 (by omega)
        simp; omega
    rw [hne]
    simp only [Bool.false_eq_true, if_false]
    rw [← be_mod k n k (Nat.le_refl _), ih k (n % 256 ^ k) _ false r rfl (by simp) hml]
    congr 1
    rw [Nat.pow_succ, Nat.add_mul]
    have e1 : acc * 256 * 256 ^ k = acc * (256 ^ k * 256) := by rw [Nat.mul_assoc, Nat.mul_comm 256]
    rw [e1, Nat.add_assoc]
    congr 1
    rw [Nat.mul_comm (n / 256 ^ k)]
    exact hdm

theorem pNum_numL (n : Nat) (r : List UInt8) (hn : n < 18446744073709551616) : pNum (numL n ++ r) = .ok (n, (numL n).length) := by
  have h8 := nb_le n hn
  have hk : (UInt8.ofNat (nb n)).toNat = nb n := by simp; omega
  obtain ⟨h1, h2⟩ := nb_spec n hn
  have hd := digs_be (nb n) (nb n) n 0 true r rfl (fun _ h0 => (h2 (by rintro rfl; rw [nb_zero] at h0; exact h0 rfl)).2) h1
  rw [Nat.zero_mul, Nat.zero_add] at hd
  rw [numL_length]
  simp only [numL, List.cons_append, pNum, hk, hd]
  rw [if_neg (by omega)]

theorem pText_rawL (t r : List UInt8) (ht : t.length < 18446744073709551616) (most : Nat) (hm : t.length ≤ most) : pText most (numL t.length ++ (t ++ r)) = .ok (t, (numL t.length).length + t.length) := by
  unfold pText
  rw [pNum_numL _ _ ht]
  simp only
  rw [if_neg (by omega), if_neg (by simp), List.drop_left, List.take_left]

/-- Bytes that are read as a number are its bytes. -/
theorem digs_back : ∀ (m : Nat) (first : Bool) (acc : Nat) (r : List UInt8) (n : Nat), digs m first acc r = .ok n → ∃ x, n = acc * 256 ^ m + x ∧ x < 256 ^ m ∧ r.take m = be m x ∧ (first = true → m ≠ 0 → 256 ^ (m - 1) ≤ x)
  | 0, _, acc, _, n, h => by simp [digs] at h; exact ⟨0, by omega, by simp, by simp [be], by simp⟩
  | m + 1, first, acc, [], n, h => by simp [digs] at h
  | m + 1, first, acc, c :: r, n, h => by
    unfold digs at h
    split at h
    · cases h
    · rename_i hc
      obtain ⟨x, h1, h2, h3, _⟩ := digs_back m false _ r n h
      have hcl := c.toNat_lt
      have hp : 0 < 256 ^ m := Nat.pow_pos (by decide)
      have hdiv : (c.toNat * 256 ^ m + x) / 256 ^ m = c.toNat := by rw [Nat.mul_comm, Nat.mul_add_div hp, Nat.div_eq_of_lt h2, Nat.add_zero]
      refine ⟨c.toNat * 256 ^ m + x, ?_, ?_, ?_, ?_⟩
      · rw [h1, Nat.add_mul, Nat.pow_succ, Nat.add_assoc]
        congr 1
        rw [Nat.mul_assoc, Nat.mul_comm 256]
      · rw [Nat.pow_succ]
        have : c.toNat * 256 ^ m ≤ 255 * 256 ^ m := Nat.mul_le_mul_right _ (by omega)
        omega
      · simp only [List.take_succ_cons, be]
        rw [hdiv]
        have e1 : UInt8.ofNat (c.toNat % 256) = c := by
          rw [Nat.mod_eq_of_lt hcl]; simp
        rw [e1, h3]
        congr 1
        rw [← be_mod m (c.toNat * 256 ^ m + x) m (Nat.le_refl _), Nat.mul_comm, Nat.mul_add_mod, Nat.mod_eq_of_lt h2]
      · intro hf _
        subst hf
        rw [Nat.add_sub_cancel]
        have : 1 ≤ c.toNat := by
          simp at hc
          have : c.toNat ≠ 0 := by exact hc
          omega
        have := Nat.mul_le_mul_right (256 ^ m) this
        omega

theorem pNum_back {l : List UInt8} {n u : Nat} (h : pNum l = .ok (n, u)) : numL n = l.take u := by
  have hlt := (pNum_used h).2.1
  cases l with
  | nil => simp [pNum] at h
  | cons k r =>
    simp only [pNum] at h
    split at h
    · cases h
    · rename_i hk
      cases hd : digs k.toNat true 0 r with
      | error c => rw [hd] at h; cases h
      | ok m =>
        rw [hd] at h
        simp at h
        obtain ⟨rfl, rfl⟩ := h
        obtain ⟨x, h1, h2, h3, h4⟩ := digs_back _ _ _ _ _ hd
        rw [Nat.zero_mul, Nat.zero_add] at h1
        subst h1
        have hnb : nb m = k.toNat := nb_unique m _ hlt h2 (h4 rfl)
        rw [List.take_succ_cons, h3, numL, hnb]
        congr 1
        simp

/-- What a reader answers that stands at k of the bytes l, stuck by st (0: it isn't): the value, the error, the place behind. The error is what it is stuck by from then on. -/
def byteS (l : List UInt8) (k st : Nat) : Nat × Nat × Nat := if st ≠ 0 then (0, st, k) else match l.drop k with
  | [] => (0, 2, k)
  | c :: _ => (c.toNat, 0, k + 1)

def numS (l : List UInt8) (k st : Nat) : Nat × Nat × Nat := if st ≠ 0 then (0, st, k) else match pNum (l.drop k) with
  | .ok (n, u) => (n, 0, k + u)
  | .error c => (0, c, k)

def textS (l : List UInt8) (most k st : Nat) : List UInt8 × Nat × Nat := if st ≠ 0 then ([], st, k) else match pText most (l.drop k) with
  | .ok (t, u) => (t, 0, k + u)
  | .error c => ([], c, k)

def endS (l : List UInt8) (k st : Nat) : Nat := if st ≠ 0 then st else if k < l.length then 5 else 0

theorem digs_err : ∀ (m : Nat) (first : Bool) (acc : Nat) (r : List UInt8) (c : Nat), digs m first acc r = .error c → c = 2 ∨ c = 3
  | 0, _, _, _, _, h => by simp [digs] at h
  | m + 1, first, acc, [], c, h => by simp [digs] at h; exact .inl h.symm
  | m + 1, first, acc, x :: r, c, h => by
    unfold digs at h
    split at h
    · cases h; exact .inr rfl
    · exact digs_err m false _ r c h

theorem pNum_err {l : List UInt8} {c : Nat} (h : pNum l = .error c) : c = 2 ∨ c = 3 := by
  cases l with
  | nil => simp [pNum] at h; exact .inl h.symm
  | cons k r =>
    simp only [pNum] at h
    split at h
    · cases h; exact .inr rfl
    · cases hd : digs k.toNat true 0 r with
      | ok m => rw [hd] at h; cases h
      | error d => rw [hd] at h; cases h; exact digs_err _ _ _ _ _ hd

/-- A number that is read at the beginning: its bytes are the first ones; or nothing is read. -/
theorem numS_zero {l : List UInt8} {n c k : Nat} (h : numS l 0 0 = (n, c, k)) : n < 18446744073709551616 ∧ (c = 0 → numL n = l.take k) ∧ (c ≠ 0 → n = 0 ∧ k = 0) := by
  unfold numS at h
  simp only [ne_eq, not_true_eq_false, if_false, List.drop_zero] at h
  cases hp : pNum l with
  | ok p =>
    obtain ⟨m, u⟩ := p
    rw [hp] at h
    simp at h
    obtain ⟨rfl, rfl, rfl⟩ := h
    exact ⟨(pNum_used hp).2.1, fun _ => pNum_back hp, fun h => absurd rfl h⟩
  | error d =>
    rw [hp] at h
    simp at h
    obtain ⟨rfl, rfl, rfl⟩ := h
    refine ⟨by omega, fun h0 => ?_, fun _ => ⟨rfl, rfl⟩⟩
    have := pNum_err hp
    omega

end Go.Proofs.YthaggdkfaglgaaaGreatDoor.BinMath

/- Frames as plain functions: what is laid, and what is read of it. No program is named here. -/
namespace Go.Proofs.YthaggdkfaglgaaaGreatDoor.FrameMath
set_option maxRecDepth 20000
open BinMath CrcMath

/-- A text with its length ahead. -/
def rawF (t : List UInt8) : List UInt8 := numL t.length ++ t

/-- A sum's four bytes, the highest first. -/
def four (x : BitVec 32) : List UInt8 := [UInt8.ofNat (x.toNat / 16777216), UInt8.ofNat (x.toNat / 65536), UInt8.ofNat (x.toNat / 256), UInt8.ofNat x.toNat]
def sealF (l : List UInt8) : List UInt8 := four (sum l)
def frameF (t : List UInt8) : List UInt8 := rawF t ++ sealF (rawF t)
def layF (T : List (List UInt8)) : List UInt8 := (T.map frameF).flatten

theorem four_length (x : BitVec 32) : (four x).length = 4 := rfl
theorem sealF_length (l : List UInt8) : (sealF l).length = 4 := rfl
theorem frameF_length (t : List UInt8) : (frameF t).length = (numL t.length).length + t.length + 4 := by
  simp [frameF, rawF, sealF_length]
  omega

theorem four_inj {x y : BitVec 32} (h : four x = four y) : x = y := by
  unfold four at h
  have hx := x.isLt
  have hy := y.isLt
  simp only [List.cons.injEq, and_true] at h
  obtain ⟨h1, h2, h3, h4⟩ := h
  have e1 := congrArg UInt8.toNat h1
  have e2 := congrArg UInt8.toNat h2
  have e3 := congrArg UInt8.toNat h3
  have e4 := congrArg UInt8.toNat h4
  simp only [UInt8.toNat_ofNat', Nat.reducePow] at e1 e2 e3 e4
  apply BitVec.eq_of_toNat_eq
  omega

/-- The first record, and how many bytes its frame has; or the first fault. -/
def oneF (b : List UInt8) : Except Nat (List UInt8 × Nat) :=
  match pText 32768 b with
  | .error c => .error c
  | .ok (t, u) => if b.length - u < 4 then .error 2 else if (b.drop u).take 4 = sealF (b.take u) then .ok (t, u + 4) else .error 3

theorem digs_take : ∀ (m : Nat) (first : Bool) (acc : Nat) (r : List UInt8) (j : Nat), m ≤ j → digs m first acc (r.take j) = digs m first acc r
  | 0, _, _, _, _, _ => by simp [digs]
  | m + 1, first, acc, [], j, h => by simp
  | m + 1, first, acc, c :: r, 0, h => by omega
  | m + 1, first, acc, c :: r, j + 1, h => by
    simp only [List.take_succ_cons, digs]
    rw [digs_take m false _ r j (by omega)]

theorem pNum_take (l : List UInt8) : pNum (l.take 9) = pNum l := by
  cases l with
  | nil => rfl
  | cons k r =>
    simp only [List.take_succ_cons, pNum]
    by_cases h : 8 < k.toNat
    · rw [if_pos h, if_pos h]
    · rw [if_neg h, if_neg h, digs_take k.toNat true 0 r 8 (by omega)]

theorem pNum_used9 {l : List UInt8} {n u : Nat} (h : pNum l = .ok (n, u)) : u ≤ 9 := by
  rw [← pNum_take] at h
  have h1 := (pNum_used h).1
  rw [List.length_take] at h1
  omega

theorem pNum_prefix {l : List UInt8} {n u : Nat} (h : pNum l = .ok (n, u)) : l = numL n ++ l.drop u ∧ (numL n).length = u ∧ n < 18446744073709551616 := by
  have h1 := pNum_back h
  have h2 := pNum_used h
  refine ⟨by rw [h1, List.take_append_drop], by rw [h1, List.length_take]; omega, h2.2.1⟩

theorem one_err {b : List UInt8} {c : Nat} (h : pNum b = .error c) : oneF b = .error c := by
  unfold oneF pText
  rw [h]

theorem one_long {b : List UInt8} {n u : Nat} (h : pNum b = .ok (n, u)) (hn : 32768 < n) : oneF b = .error 4 := by
  unfold oneF pText
  rw [h]
  simp only [if_pos hn]

theorem one_short {b : List UInt8} {n u : Nat} (h : pNum b = .ok (n, u)) (hn : n ≤ 32768) (hl : b.length < u + n + 4) : oneF b = .error 2 := by
  have h1 := (pNum_used h).1
  unfold oneF pText
  rw [h]
  simp only [if_neg (show ¬ 32768 < n by omega)]
  by_cases h2 : b.length - u < n
  · rw [if_pos h2]
  · rw [if_neg h2]
    simp only
    rw [if_pos (by omega)]

theorem one_form {b : List UInt8} {n u : Nat} (h : pNum b = .ok (n, u)) (hn : n ≤ 32768) (hl : u + n + 4 ≤ b.length) :
    oneF b = if (b.drop (u + n)).take 4 = sealF (b.take (u + n)) then .ok ((b.drop u).take n, u + n + 4) else .error 3 := by
  unfold oneF pText
  rw [h]
  simp only [if_neg (show ¬ 32768 < n by omega), if_neg (show ¬ b.length - u < n by omega)]
  rw [if_neg (by omega)]

theorem pText_prefix {b t : List UInt8} {u : Nat} (h : pText 32768 b = .ok (t, u)) : b.take u = rawF t ∧ t.length ≤ 32768 ∧ u ≤ b.length ∧ u = (rawF t).length := by
  have h2 := pText_used h
  unfold pText at h
  cases hp : pNum b with
  | error c => rw [hp] at h; cases h
  | ok p =>
    obtain ⟨n, v⟩ := p
    rw [hp] at h
    simp only at h
    by_cases h4 : 32768 < n
    · rw [if_pos h4] at h; cases h
    rw [if_neg h4] at h
    by_cases h5 : b.length - v < n
    · rw [if_pos h5] at h; cases h
    rw [if_neg h5] at h
    simp only [Except.ok.injEq, Prod.mk.injEq] at h
    obtain ⟨rfl, rfl⟩ := h
    obtain ⟨e1, e2, e3⟩ := pNum_prefix hp
    have h6 := (pNum_used hp).1
    have el : ((b.drop v).take n).length = n := by rw [List.length_take, List.length_drop]; omega
    refine ⟨?_, h2.2.1, h2.1, ?_⟩
    · unfold rawF
      rw [el, pNum_back hp, List.take_add]
    · unfold rawF
      rw [el, List.length_append, el, e2]

theorem one_ok {b t : List UInt8} {n : Nat} (h : oneF b = .ok (t, n)) : b = frameF t ++ b.drop n ∧ n = (frameF t).length ∧ t.length ≤ 32768 ∧ n ≤ b.length ∧ 5 ≤ n := by
  unfold oneF at h
  cases hp : pText 32768 b with
  | error c => rw [hp] at h; cases h
  | ok p =>
    obtain ⟨s, u⟩ := p
    rw [hp] at h
    simp only at h
    by_cases h1 : b.length - u < 4
    · rw [if_pos h1] at h; cases h
    rw [if_neg h1] at h
    by_cases h2 : (b.drop u).take 4 = sealF (b.take u)
    · rw [if_pos h2] at h
      simp only [Except.ok.injEq, Prod.mk.injEq] at h
      obtain ⟨rfl, rfl⟩ := h
      obtain ⟨e1, e2, e3, e4⟩ := pText_prefix hp
      have ef : b.take (u + 4) = frameF s := by
        rw [List.take_add, h2, e1]
        rfl
      have hlen : (frameF s).length = u + 4 := by rw [← ef, List.length_take]; omega
      refine ⟨by rw [← ef, List.take_append_drop], hlen.symm, e2, by omega, ?_⟩
      have := numL_length s.length
      rw [frameF_length] at hlen
      omega
    · rw [if_neg h2] at h; cases h

theorem one_frame (t r : List UInt8) (ht : t.length ≤ 32768) : oneF (frameF t ++ r) = .ok (t, (frameF t).length) := by
  have hp : pNum (frameF t ++ r) = .ok (t.length, (numL t.length).length) := by
    have := pNum_numL t.length (t ++ sealF (rawF t) ++ r) (by omega)
    simpa [frameF, rawF] using this
  have hl := frameF_length t
  have hr : (rawF t).length = (numL t.length).length + t.length := by simp [rawF]
  rw [one_form hp ht (by rw [List.length_append, hl]; omega)]
  have e1 : (frameF t ++ r).take ((numL t.length).length + t.length) = rawF t := by
    rw [← hr]
    unfold frameF
    rw [List.append_assoc, List.take_left']
    rfl
  have e2 : ((frameF t ++ r).drop ((numL t.length).length + t.length)).take 4 = sealF (rawF t) := by
    rw [← hr]
    unfold frameF
    rw [List.append_assoc, List.drop_left' rfl, List.take_left' (sealF_length _)]
  have e3 : ((frameF t ++ r).drop (numL t.length).length).take t.length = t := by
    unfold frameF rawF
    rw [List.append_assoc, List.append_assoc, List.drop_left' rfl, List.take_left' rfl]
  rw [e1, e2, e3, if_pos rfl, hl]

theorem one_more {b t : List UInt8} {n : Nat} (h : oneF b = .ok (t, n)) (r : List UInt8) : oneF (b ++ r) = .ok (t, n) := by
  obtain ⟨h1, h2, h3, h4, h5⟩ := one_ok h
  rw [h1, List.append_assoc, one_frame t _ h3, h2]

theorem one_cut (t r : List UInt8) (ht : t.length ≤ 32768) (k : Nat) (hk : k < (frameF t).length) : ∃ c, oneF ((frameF t ++ r).take k) = .error c := by
  cases h : oneF ((frameF t ++ r).take k) with
  | error c => exact ⟨c, rfl⟩
  | ok p =>
    exfalso
    obtain ⟨s, n⟩ := p
    have h1 := one_more h ((frameF t ++ r).drop k)
    rw [List.take_append_drop, one_frame t r ht] at h1
    have h2 := (one_ok h).2.2.2.1
    rw [List.length_take] at h2
    simp only [Except.ok.injEq, Prod.mk.injEq] at h1
    omega

/-- One, again and again. -/
inductive Scans : List UInt8 → List (List UInt8) → Nat → Prop
  | stop {b : List UInt8} {c : Nat} : oneF b = .error c → Scans b [] 0
  | step {b t : List UInt8} {n m : Nat} {T : List (List UInt8)} : oneF b = .ok (t, n) → Scans (b.drop n) T m → Scans b (t :: T) (n + m)

theorem Scans.unique {b : List UInt8} {T T' : List (List UInt8)} {n n' : Nat} (h : Scans b T n) (h' : Scans b T' n') : T = T' ∧ n = n' := by
  induction h generalizing T' n' with
  | stop h1 => cases h' with
    | stop _ => exact ⟨rfl, rfl⟩
    | step h2 _ => rw [h1] at h2; cases h2
  | step h1 _ ih => cases h' with
    | stop h2 => rw [h1] at h2; cases h2
    | step h2 h3 =>
      rw [h1] at h2
      simp only [Except.ok.injEq, Prod.mk.injEq] at h2
      obtain ⟨rfl, rfl⟩ := h2
      obtain ⟨rfl, rfl⟩ := ih h3
      exact ⟨rfl, rfl⟩

theorem Scans.le {b : List UInt8} {T : List (List UInt8)} {n : Nat} (h : Scans b T n) : n ≤ b.length ∧ T.length ≤ n ∧ ∀ t ∈ T, t.length ≤ 32768 := by
  induction h with
  | stop _ => exact ⟨Nat.zero_le _, Nat.le_refl _, fun t ht => by simp at ht⟩
  | step h1 _ ih =>
    obtain ⟨_, _, h2, h3, h4⟩ := one_ok h1
    obtain ⟨i1, i2, i3⟩ := ih
    rw [List.length_drop] at i1
    refine ⟨by omega, by simp; omega, fun t ht => ?_⟩
    rcases List.mem_cons.1 ht with rfl | ht
    · exact h2
    · exact i3 t ht

theorem Scans.lay {r : List UInt8} {T' : List (List UInt8)} {m : Nat} (h : Scans r T' m) : ∀ T : List (List UInt8), (∀ t ∈ T, t.length ≤ 32768) → Scans (layF T ++ r) (T ++ T') ((layF T).length + m)
  | [], _ => by simpa [layF] using h
  | t :: T, ht => by
    have ih := h.lay T fun u hu => ht u (List.mem_cons_of_mem _ hu)
    have e : layF (t :: T) = frameF t ++ layF T := by simp [layF]
    rw [e, List.append_assoc, List.length_append, Nat.add_assoc]
    refine .step (one_frame t _ (ht t (by simp))) ?_
    rw [List.drop_left' rfl]
    exact ih

/-- What a scan has done so far. -/
def Done (b : List UInt8) (T : List (List UInt8)) (at_ : Nat) : Prop := at_ ≤ b.length ∧ T.length ≤ at_ ∧ (∀ T' m, Scans (b.drop at_) T' m → Scans b (T ++ T') (at_ + m))

theorem Done.start (b : List UInt8) : Done b [] 0 := ⟨Nat.zero_le _, Nat.le_refl _, fun T' m h => by simpa using h⟩

theorem Done.step {b t : List UInt8} {T : List (List UInt8)} {at_ n : Nat} (h : Done b T at_) (h1 : oneF (b.drop at_) = .ok (t, n)) : Done b (T ++ [t]) (at_ + n) := by
  obtain ⟨h2, h3, h4⟩ := h
  obtain ⟨_, _, _, i1, i2⟩ := one_ok h1
  rw [List.length_drop] at i1
  refine ⟨by omega, by simp; omega, fun T' m h5 => ?_⟩
  have h6 := h4 (t :: T') (n + m) (.step h1 (by rw [List.drop_drop]; exact h5))
  rw [List.append_assoc, Nat.add_assoc]
  exact h6

theorem Done.stop {b : List UInt8} {T : List (List UInt8)} {at_ c : Nat} (h : Done b T at_) (h1 : oneF (b.drop at_) = .error c) : Scans b T at_ := by
  simpa using h.2.2 [] 0 (.stop h1)

/-- How many of the frames are whole where all is cut off at a place. -/
theorem Scans.cut {T : List (List UInt8)} {w at_ : Nat} (hT : ∀ t ∈ T, t.length ≤ 32768) (h1 : (layF (T.take w)).length ≤ at_) (h2 : ∀ t, T[w]? = some t → at_ < (layF (T.take w)).length + (frameF t).length) (h3 : w = T.length → at_ = (layF T).length) :
    Scans ((layF T).take at_) (T.take w) (layF (T.take w)).length := by
  have e : layF T = layF (T.take w) ++ layF (T.drop w) := by
    unfold layF
    rw [← List.flatten_append, ← List.map_append, List.take_append_drop]
  obtain ⟨k, rfl⟩ : ∃ k, at_ = (layF (T.take w)).length + k := ⟨at_ - (layF (T.take w)).length, by omega⟩
  rw [e, List.take_append, List.take_of_length_le (by omega), Nat.add_sub_cancel_left]
  have hs : ∃ c, oneF ((layF (T.drop w)).take k) = .error c := by
    rcases Nat.lt_or_ge w T.length with hlt | hge
    · have hd : T.drop w = T[w] :: T.drop (w + 1) := List.drop_eq_getElem_cons hlt
      have := h2 T[w] (List.getElem?_eq_getElem hlt)
      have e2 : layF (T.drop w) = frameF T[w] ++ layF (T.drop (w + 1)) := by
        rw [hd]
        unfold layF
        rw [List.map_cons, List.flatten_cons]
      rw [e2]
      exact one_cut _ _ (hT _ (List.getElem_mem hlt)) k (by omega)
    · rw [List.drop_of_length_le hge]
      exact ⟨2, by simp [layF, oneF, pText, pNum]⟩
  obtain ⟨c, hc⟩ := hs
  have := (Scans.stop hc).lay (T.take w) fun t ht => hT t (List.mem_of_mem_take ht)
  simpa using this

/-- A byte that is turned changes the sum. -/
theorem sum_turn (l : List UInt8) (q : Nat) (y z : UInt8) (hq : l[q]? = some y) (h : sum (l.set q z) = sum l) : z = y := by
  obtain ⟨hlt, rfl⟩ := List.getElem?_eq_some_iff.1 hq
  have e1 : l = l.take q ++ l[q] :: l.drop (q + 1) := by rw [← List.drop_eq_getElem_cons hlt, List.take_append_drop]
  have e2 : l.set q z = l.take q ++ z :: l.drop (q + 1) := by rw [List.set_eq_take_append_cons_drop, if_pos hlt]
  obtain ⟨p, hp⟩ : ∃ p, p = l.take q := ⟨_, rfl⟩
  obtain ⟨r, hr⟩ : ∃ r, r = l.drop (q + 1) := ⟨_, rfl⟩
  obtain ⟨y, hy⟩ : ∃ y, y = l[q] := ⟨_, rfl⟩
  rw [← hp, ← hr] at e1 e2
  rw [← hy] at e1 ⊢
  rw [e2, e1] at h
  clear e1 e2 hp hr hy hq hlt
  have h0 := h
  unfold sum more at h0
  have h1 : R (p ++ z :: r) (~~~ 0#32) = R (p ++ y :: r) (~~~ 0#32) := by
    have := congrArg (~~~ ·) h0
    simpa only [BitVec.not_not] using this
  rw [R_append, R_append] at h1
  unfold R at h1
  obtain ⟨c, hc⟩ : ∃ c, c = R p (~~~ 0#32) := ⟨_, rfl⟩
  rw [← hc] at h1
  have h2 : P 8 (c ^^^ zx z) ^^^ P 8 (c ^^^ zx y) = 0#32 := by
    apply P_inj (8 * r.length)
    have h3 := R_xor r (P 8 (c ^^^ zx z)) (P 8 (c ^^^ zx z) ^^^ P 8 (c ^^^ zx y))
    rw [← BitVec.xor_assoc, BitVec.xor_self, BitVec.zero_xor, ← h1] at h3
    have h4 : R r (P 8 (c ^^^ zx z)) ^^^ R r (P 8 (c ^^^ zx z)) = R r (P 8 (c ^^^ zx z)) ^^^ (R r (P 8 (c ^^^ zx z)) ^^^ P (8 * r.length) (P 8 (c ^^^ zx z) ^^^ P 8 (c ^^^ zx y))) := by rw [← h3]
    rw [BitVec.xor_self, ← BitVec.xor_assoc, BitVec.xor_self, BitVec.zero_xor] at h4
    exact h4.symm
  rw [← P_xor] at h2
  have h5 := P_inj 8 _ h2
  have h6 : zx z = zx y := by
    have h7 : (c ^^^ zx z) ^^^ (c ^^^ zx y) = zx z ^^^ zx y := by
      rw [xor4, BitVec.xor_self, BitVec.zero_xor]
    rw [h7] at h5
    have h8 := congrArg (· ^^^ zx y) h5
    simp only [BitVec.xor_assoc, BitVec.xor_self, BitVec.xor_zero, BitVec.zero_xor] at h8
    exact h8
  have h9 := congrArg BitVec.toNat h6
  unfold zx at h9
  rw [BitVec.toNat_ofNat, BitVec.toNat_ofNat] at h9
  have hz := z.toNat_lt
  have hy := y.toNat_lt
  apply UInt8.toNat_inj.1
  omega

/-- A frame with one byte of its record, or of its sum, turned is none. -/
theorem one_turned (t r : List UInt8) (ht : t.length ≤ 32768) (q : Nat) (y z : UInt8) (hq : (t ++ sealF (rawF t))[q]? = some y) (hne : z ≠ y) : ∃ c, oneF (numL t.length ++ (t ++ sealF (rawF t)).set q z ++ r) = .error c := by
  cases h : oneF (numL t.length ++ (t ++ sealF (rawF t)).set q z ++ r) with
  | error c => exact ⟨c, rfl⟩
  | ok p =>
    exfalso
    obtain ⟨s, n⟩ := p
    obtain ⟨h1, h2, h3, h4, h5⟩ := one_ok h
    have hp1 := pNum_numL t.length ((t ++ sealF (rawF t)).set q z ++ r) (by omega)
    have hp2 := pNum_numL s.length (s ++ sealF (rawF s) ++ List.drop n (numL t.length ++ (t ++ sealF (rawF t)).set q z ++ r)) (by omega)
    obtain ⟨d, hd⟩ : ∃ d, d = List.drop n (numL t.length ++ (t ++ sealF (rawF t)).set q z ++ r) := ⟨_, rfl⟩
    rw [← hd] at h1 hp2
    obtain ⟨g, hg⟩ : ∃ g, g = (t ++ sealF (rawF t)).set q z := ⟨_, rfl⟩
    rw [← hg] at h1 hp1
    have e : numL s.length ++ (s ++ sealF (rawF s) ++ d) = numL t.length ++ (g ++ r) := by
      rw [← List.append_assoc (numL t.length), h1]
      unfold frameF
      rw [show rawF s = numL s.length ++ s from rfl]
      simp only [List.append_assoc]
    rw [e, hp1] at hp2
    simp only [Except.ok.injEq, Prod.mk.injEq] at hp2
    have hl : t.length = s.length := hp2.1
    rw [hl] at e
    have e2 := List.append_cancel_left e
    rw [hg] at e2
    clear hd h1 hg
    have hlen : (s ++ sealF (rawF s)).length = ((t ++ sealF (rawF t)).set q z).length := by
      simp [sealF_length, hl]
    have e3 := (List.append_inj e2 hlen).1
    rcases Nat.lt_or_ge q t.length with hlt | hge
    · rw [List.set_append_left _ _ hlt] at e3
      obtain ⟨e4, e5⟩ := List.append_inj e3 (by simp [hl])
      subst e4
      have e6 := four_inj e5
      rw [List.getElem?_append_left hlt] at hq
      have e7 : rawF (t.set q z) = (rawF t).set ((numL t.length).length + q) z := by
        unfold rawF
        rw [List.set_append_right _ _ (by omega), List.length_set, Nat.add_sub_cancel_left]
      rw [e7] at e6
      refine hne (sum_turn _ _ y z ?_ e6)
      unfold rawF
      rw [List.getElem?_append_right (by omega), Nat.add_sub_cancel_left]
      exact hq
    · rw [List.set_append_right _ _ hge] at e3
      obtain ⟨e4, e5⟩ := List.append_inj e3 hl.symm
      subst e4
      rw [List.getElem?_append_right hge] at hq
      have hlt := (List.getElem?_eq_some_iff.1 hq).1
      have e6 : ((sealF (rawF s)).set (q - s.length) z)[q - s.length]? = some z := by
        rw [List.getElem?_set_self hlt]
      rw [← e5, hq] at e6
      exact hne (Option.some.inj e6).symm

theorem one_text {b t : List UInt8} {u : Nat} (h : pText 32768 b = .ok (t, u)) (hl : u + 4 ≤ b.length) : oneF b = if (frameF t == b.take (u + 4)) = true then .ok (t, u + 4) else .error 3 := by
  obtain ⟨h1, h2, h3, h4⟩ := pText_prefix h
  have e : frameF t = b.take (u + 4) ↔ (b.drop u).take 4 = sealF (b.take u) := by
    rw [List.take_add, h1, frameF, List.append_cancel_left_eq]
    exact eq_comm
  unfold oneF
  rw [h]
  simp only [if_neg (show ¬ b.length - u < 4 by omega), beq_iff_eq, e]

theorem one_text_short {b t : List UInt8} {u : Nat} (h : pText 32768 b = .ok (t, u)) (hl : b.length < u + 4) : oneF b = .error 2 := by
  unfold oneF
  rw [h]
  simp only [if_pos (show b.length - u < 4 by omega)]

theorem one_text_err {b : List UInt8} {c : Nat} (h : pText 32768 b = .error c) : oneF b = .error c := by
  unfold oneF
  rw [h]

theorem one_big (t : List UInt8) (h : 32768 < t.length) (h2 : t.length < 18446744073709551616) : oneF (frameF t) = .error 4 := by
  have hp : pNum (frameF t) = .ok (t.length, (numL t.length).length) := by
    have := pNum_numL t.length (t ++ sealF (rawF t)) h2
    simpa [frameF, rawF] using this
  exact one_long hp h

theorem one_fault {b : List UInt8} {c : Nat} (h : oneF b = .error c) : 2 ≤ c ∧ c ≤ 4 := by
  unfold oneF at h
  cases hp : pText 32768 b with
  | error d =>
    rw [hp] at h
    simp only [Except.error.injEq] at h
    subst h
    unfold pText at hp
    cases hn : pNum b with
    | error e =>
      rw [hn] at hp
      simp only [Except.error.injEq] at hp
      subst hp
      have := pNum_err hn
      omega
    | ok p =>
      obtain ⟨n, u⟩ := p
      rw [hn] at hp
      simp only at hp
      split at hp
      · simp only [Except.error.injEq] at hp; omega
      · split at hp
        · simp only [Except.error.injEq] at hp; omega
        · cases hp
  | ok p =>
    obtain ⟨t, u⟩ := p
    rw [hp] at h
    simp only at h
    split at h
    · simp only [Except.error.injEq] at h; omega
    · split at h
      · cases h
      · simp only [Except.error.injEq] at h; omega

theorem frameF_le (t : List UInt8) (h : t.length ≤ 32768) : (frameF t).length ≤ 32781 := by
  have h1 := numL_length t.length
  have h2 := nb_le t.length (by omega)
  rw [frameF_length]
  omega

theorem layF_le : ∀ T : List (List UInt8), (∀ t ∈ T, t.length ≤ 32768) → (layF T).length ≤ T.length * 32781
  | [], _ => by simp [layF]
  | t :: T, h => by
    have h1 := frameF_le t (h t (by simp))
    have h2 := layF_le T fun u hu => h u (List.mem_cons_of_mem _ hu)
    have e : layF (t :: T) = frameF t ++ layF T := by simp [layF]
    rw [e, List.length_append, List.length_cons, Nat.add_mul, Nat.one_mul]
    omega

theorem layF_snoc (T : List (List UInt8)) (i : Nat) (t : List UInt8) (h : T[i]? = some t) : layF (T.take (i + 1)) = layF (T.take i) ++ frameF t := by
  obtain ⟨hi, rfl⟩ := List.getElem?_eq_some_iff.1 h
  unfold layF
  rw [List.take_succ_eq_append_getElem hi, List.map_append, List.flatten_append]
  simp only [List.map_cons, List.map_nil, List.flatten_cons, List.flatten_nil, List.append_nil]

end Go.Proofs.YthaggdkfaglgaaaGreatDoor.FrameMath

/- Lists of texts: those that lie anywhere, those of the call's own. -/
namespace Go.Proofs.YthaggdkfaglgaaaGreatDoor
set_option maxRecDepth 20000
open Go.RowKit FrameMath CrcMath

theorem rawL_rawF (t : List UInt8) : rawL t = rawF t := rfl

/-- A list of texts, wherever it lies. -/
def Txs (w : World) (v : Value) (T : List (List UInt8)) : Prop :=
  ∃ a cap, v = .slice a T.length cap ∧ T.length ≤ cap ∧ (∀ (i : Nat) (t : List UInt8), T[i]? = some t → ∃ ad A C, a = some ad ∧ w.cell? (ad.add i) = some (.slice A t.length C) ∧ Bys w (.slice A t.length C) t)

theorem Txs.keep {w w' : World} {v : Value} {T : List (List UInt8)} (h : Txs w v T) (hb : Below w.heap.size w w') : Txs w' v T := by
  obtain ⟨a, cap, h1, h2, h3⟩ := h
  refine ⟨a, cap, h1, h2, fun i t hi => ?_⟩
  obtain ⟨ad, A, C, e, hc, hx⟩ := h3 i t hi
  exact ⟨ad, A, C, e, by rw [hb.cell (World.block_lt_of_cell? w _ hc)]; exact hc, hx.below (Nat.le_refl _) hb⟩

theorem TextsAt.txs {w : World} {a : Option Addr} {len cap : Nat} {T : List (List UInt8)} (h : TextsAt w a T) (hl : T.length = len) (hc : len ≤ cap) : Txs w (.slice a len cap) T := by
  subst hl
  exact ⟨a, cap, rfl, hc, fun i t hi => (h i t hi).2⟩

theorem below_dn {B : Nat} {w W : World} (h : Below B w W) (q : Nat) : Below B w (W.drewN q) := ⟨h.os, h.tape, h.output, h.size, h.block⟩

theorem row_lower {w : World} {B B' : Nat} {v : Value} {l : List UInt8} (h : Row w B v l) (hB : B' ≤ B) : Row w B' v l := by
  refine ⟨h.1, ?_⟩
  rcases h.2 with h0 | ⟨g, cap, cur, h1, h2, h3⟩
  · exact .inl h0
  · exact .inr ⟨g, cap, cur, h1, Nat.le_trans hB h2, h3⟩

/-- append to a row of the call's own: rows made later stay. -/
theorem grow_apart {w wr : World} {B : Nat} {v x : Value} {l l' : List UInt8} (hB : B ≤ wr.heap.size) (h : Row wr B v l) (hx : Bys wr x l') (hlen : l.length + l'.length ≤ 140737488355328) (hw : Below B w wr) (D : Nat) (hD : ∀ k, v.ownBlock = some k → k < D) :
    ∃ v' w', (Builtin.append_ #[27, 27] 27 #[v, x]).run Tryz.prog wr = .ok v' w' ∧ (Row w' B v' (l ++ l') ∧ Below B w w' ∧ ∀ (y : Value) (q : List UInt8), Row wr D y q → Row w' D y q) := by
  obtain ⟨v', w', h1, h2, h3⟩ := append_bys hB h hx hlen
  refine ⟨v', w', h1, h2, hw.grown h3 hB fun k hk => (World.ownsRow.lt h k hk).1, fun y q hy => World.ownsRow.kept hy h3 ?_⟩
  cases hb : y.ownBlock with
  | none => exact .inl rfl
  | some k =>
    right
    intro he
    have h4 := (World.ownsRow.lt hy k hb).1
    have h5 := hD k he.symm
    omega

theorem info_text : (Tryz.prog.info? 27).map (fun i => (i.zero, i.size, i.bytes)) = some (some (.slice none 0 0), 1, 24) := by kernel_rfl

theorem ownRow_keep {w w' : World} {B e size : Nat} {v : Value} {n : Nat} {xs : List Value} (h : w.ownsRow B e size v n xs) (hb : Below w.heap.size w w') : w'.ownsRow B e size v n xs := by
  refine ⟨h.1, ?_⟩
  rcases h.2 with h0 | ⟨g, cap, cur, h1, h2, h3, h4⟩
  · exact .inl h0
  · have hlt : g < w.heap.size := (Array.getElem?_eq_some_iff.1 h3).1
    exact .inr ⟨g, cap, cur, h1, h2, by rw [hb.block g hlt]; exact h3, h4⟩

theorem ownRow_other {W w' : World} {B B' size size' n n' e e' : Nat} {v v' : Value} {xs xs' : List Value} (h : W.ownsRow B e size v n xs) (h' : W.ownsRow B' e' size' v' n' xs') (hne : e ≠ e') (hg : W.grownBy w' v'.ownBlock) : w'.ownsRow B e size v n xs := by
  refine World.ownsRow.kept h hg ?_
  cases hv : v.ownBlock with
  | none => exact .inl rfl
  | some k =>
    right
    intro he
    rcases h.2 with ⟨e1, _⟩ | ⟨g, cap, cur, e1, _, hg1, _⟩
    · rw [e1] at hv; simp [Value.ownBlock] at hv
    · rw [e1] at hv
      rcases h'.2 with ⟨e2, _⟩ | ⟨g', cap', cur', e2, _, hg2, _⟩
      · rw [e2] at he; simp [Value.ownBlock] at he
      · rw [e2] at he
        simp only [Value.ownBlock, Option.some.injEq] at hv he
        rw [hv, he, hg2] at hg1
        simp at hg1
        exact hne hg1.2.symm

/-- A list of texts, it and they of the call's own, from block B on. -/
def Own (w : World) (B : Nat) (v : Value) (T : List (List UInt8)) : Prop :=
  ∃ us : List Value, w.ownsRow B 27 1 v T.length us ∧ ∀ (i : Nat) (t : List UInt8), T[i]? = some t → ∃ u, us[i]? = some u ∧ Row w B u t

theorem Own.nil (w : World) (B : Nat) : Own w B (.slice none 0 0) [] := ⟨[], World.ownsRow_nil _ _ _ _, fun i t h => by simp at h⟩

theorem Own.keep {w w' : World} {B : Nat} {v : Value} {T : List (List UInt8)} (h : Own w B v T) (hb : Below w.heap.size w w') : Own w' B v T := by
  obtain ⟨us, h1, h2⟩ := h
  refine ⟨us, ownRow_keep h1 hb, fun i t hi => ?_⟩
  obtain ⟨u, h3, h4⟩ := h2 i t hi
  exact ⟨u, h3, h4.below hb⟩

theorem Own.lower {w : World} {B B' : Nat} {v : Value} {T : List (List UInt8)} (h : Own w B v T) (hB : B' ≤ B) : Own w B' v T := by
  obtain ⟨us, h1, h2⟩ := h
  refine ⟨us, ⟨h1.1, ?_⟩, fun i t hi => ?_⟩
  · rcases h1.2 with h0 | ⟨g, cap, cur, h3, h4, h5⟩
    · exact .inl h0
    · exact .inr ⟨g, cap, cur, h3, Nat.le_trans hB h4, h5⟩
  · obtain ⟨u, h3, h4⟩ := h2 i t hi
    exact ⟨u, h3, row_lower h4 hB⟩

theorem Own.txs {w : World} {B : Nat} {v : Value} {T : List (List UInt8)} (h : Own w B v T) : Txs w v T := by
  obtain ⟨us, h1, h2⟩ := h
  have h1' := h1
  rcases h1.2 with ⟨rfl, h0⟩ | ⟨g, cap, cur, rfl, hB, hg, hn, hm, hs, ht⟩
  · obtain rfl := List.eq_nil_of_length_eq_zero h0
    exact ⟨none, 0, rfl, Nat.le_refl _, fun i t hi => by simp at hi⟩
  · refine ⟨some ⟨g, 0, none⟩, cap, rfl, hn, fun i t hi => ?_⟩
    obtain ⟨u, h3, h4⟩ := h2 i t hi
    obtain ⟨A, C, rfl⟩ := slice_of_row h4
    refine ⟨_, A, C, rfl, ?_, h4.bys⟩
    have hi2 := (List.getElem?_eq_some_iff.1 hi).1
    rw [addr_add, Nat.zero_add, World.ownsRow.cellAt h1' i (by omega), h3]

/-- append(list, one). -/
theorem Own.add {W : World} {B : Nat} {v u : Value} {T : List (List UInt8)} {t : List UInt8} (h : Own W B v T) (hu : Row W B u t) (hB : B ≤ W.heap.size) (hn : T.length ≤ 1099511627776) (x : Nat) (hx : Blk W x 27 #[u]) :
    ∃ v' w', (Builtin.append_ #[33, 33] 33 #[v, .slice (some ⟨x, 0, none⟩) 1 1]).run Tryz.prog W = .ok v' w' ∧
      (Own w' B v' (T ++ [t]) ∧ (∀ A : World, ∀ D, D ≤ B → Below D A W → Below D A w')) := by
  obtain ⟨us, h1, h2⟩ := h
  obtain ⟨i0, hi, hz0, hz1, hz2⟩ := info_parts info_text
  have hu1 : u.oneCell' = true := by
    obtain ⟨A, C, rfl⟩ := slice_of_row hu
    simp [Value.oneCell']
  obtain ⟨v', w', hr, o1, o2, _⟩ := run_append_own (P := Tryz.prog) (w := W) B 33 33 27 i0 (.slice none 0 0) 1 24 Tryz.underlying33 hi hz0 hz1 hz2 rfl (by decide) v T.length us h1 ⟨x, 0, none⟩ 1 1 [u] (by simp)
    (fun j y hj => by rw [addr_add, Nat.zero_add, hx.cell]; simpa using hj) (by simpa using hu1) (by unfold maxLen; omega) (by omega) hB
  have hl := h1.1
  refine ⟨v', w', hr, ⟨us ++ [u], by simpa using o1, fun i s hi => ?_⟩, fun A D hD hA => hA.grown o2 (Nat.le_trans hD hB) fun k hk => Nat.le_trans hD (World.ownsRow.lt h1 k hk).1⟩
  have keep : ∀ z s, Row W B z s → Row w' B z s := fun z s hz => ownRow_other hz h1 (by decide) o2
  by_cases hlt : i < T.length
  · rw [List.getElem?_append_left hlt] at hi
    obtain ⟨z, h3, h4⟩ := h2 i s hi
    exact ⟨z, by rw [List.getElem?_append_left (by omega)]; exact h3, keep z s h4⟩
  · have hi2 : i = T.length := by
      have := (List.getElem?_eq_some_iff.1 hi).1
      simp at this
      omega
    subst hi2
    rw [List.getElem?_append_right (Nat.le_refl _)] at hi
    simp at hi
    subst hi
    exact ⟨u, by rw [List.getElem?_append_right (by omega), show T.length - us.length = 0 by omega]; rfl, keep u t hu⟩

theorem elem_txs : Tryz.prog.elem 33 = 27 := by kernel_rfl
theorem size_txt (w : World) : (Go.sizeOf 27).run Tryz.prog w = .ok 1 w := by kernel_rfl

/-- 'list[lo:hi]' of a list of texts. -/
theorem slice_txs (b : Option Addr) (n c lo hi : Nat) (h1 : lo ≤ hi) (h2 : hi ≤ c) (W : World) : (Instr.sliceAt 33 (.slice b n c) (some (.int .i64 (lo : Int))) (some (.int .i64 (hi : Int))) none).run Tryz.prog W = .ok (sliced b lo hi c 1) W := by
  have ht : Tryz.prog.underlying 33 = some (.slice (Tryz.prog.elem 33)) := by rw [elem_txs]; exact Tryz.underlying33
  rw [run_sliceAt_slice _ _ _ _ _ _ ht, run_slice_lh _ _ _ _ _ ht .i64 .i64 (lo : Int) (hi : Int) (by omega) (by omega) (by omega), elem_txs, size_txt]
  simp [Result.andThen]

theorem slice_txs_to (b : Option Addr) (n c hi : Nat) (h2 : hi ≤ c) (W : World) : (Instr.sliceAt 33 (.slice b n c) none (some (.int .i64 (hi : Int))) none).run Tryz.prog W = .ok (.slice b hi c) W := by
  have ht : Tryz.prog.underlying 33 = some (.slice (Tryz.prog.elem 33)) := by rw [elem_txs]; exact Tryz.underlying33
  rw [run_sliceAt_slice _ _ _ _ _ _ ht, run_slice_h _ _ _ _ _ ht .i64 (hi : Int) (by omega) (by omega), elem_txs, size_txt]
  cases b with
  | none => simp [Result.andThen, sliced]
  | some ad => simp [Result.andThen, sliced, Addr.add]

theorem Txs.take {w : World} {a : Option Addr} {n c : Nat} {T : List (List UInt8)} (h : Txs w (.slice a n c) T) (k : Nat) (hk : k ≤ n) : Txs w (.slice a k c) (T.take k) := by
  obtain ⟨a', c', e, h2, h3⟩ := h
  cases e
  have el : (T.take k).length = k := by rw [List.length_take]; omega
  refine ⟨a, c, by rw [el], by omega, fun i t hi => ?_⟩
  have hik := (List.getElem?_eq_some_iff.1 hi).1
  rw [el] at hik
  rw [List.getElem?_take_of_lt hik] at hi
  exact h3 i t hi

theorem Txs.one {w : World} {a : Option Addr} {n c : Nat} {T : List (List UInt8)} (h : Txs w (.slice a n c) T) (i : Nat) (t : List UInt8) (hi : T[i]? = some t) : Txs w (sliced a i (i + 1) c 1) [t] := by
  obtain ⟨a', c', e, h2, h3⟩ := h
  cases e
  obtain ⟨ad, A, C, rfl, hc, hx⟩ := h3 i t hi
  have hlt := (List.getElem?_eq_some_iff.1 hi).1
  refine ⟨some (ad.add i), c - i, ?_, by simp; omega, fun j u hj => ?_⟩
  · unfold sliced
    simp
    omega
  · have hj0 : j = 0 := by
      have := (List.getElem?_eq_some_iff.1 hj).1
      simp at this
      omega
    subst hj0
    simp at hj
    subst hj
    exact ⟨_, A, C, rfl, by simpa [Addr.add] using hc, hx⟩

end Go.Proofs.YthaggdkfaglgaaaGreatDoor

/- frame.sumOf: the four bytes of a sum; the reference's Frame. -/
namespace Go.Proofs.YthaggdkfaglgaaaGreatDoor
set_option maxRecDepth 20000
open Go.RowKit FrameMath CrcMath

theorem four_cells (x : BitVec 32) : [Value.int .u8 (rv x / 16777216 % 256), .int .u8 (rv x / 65536 % 256), .int .u8 (rv x / 256 % 256), .int .u8 (rv x % 256)] = (four x).map bv := by
  simp [four, bv, rv]

theorem four_row (w : World) (x : BitVec 32) : Row (w.alloc (.cells #[Value.int .u8 (rv x / 16777216 % 256), .int .u8 (rv x / 65536 % 256), .int .u8 (rv x / 256 % 256), .int .u8 (rv x % 256)] 5)) w.heap.size (.slice (some ⟨w.heap.size, 0, none⟩) 4 4) (four x) := by
  have h := World.ownsRow_lit (base := w.heap.size) (e := 5) (size := 1) w #[Value.int .u8 (rv x / 16777216 % 256), .int .u8 (rv x / 65536 % 256), .int .u8 (rv x / 256 % 256), .int .u8 (rv x % 256)] 4 (Nat.le_refl _) (by unfold maxLen; omega) rfl
  unfold Row
  rw [← four_cells]
  exact h

set_option maxHeartbeats 400000 in
theorem sumOf_any (v : Value) (l : List UInt8) (w : World) (hv : Bys w v l) (hl : l.length ≤ 140737488355328) (ht : Tab w) :
    Calls Tryz.prog 153 #[v] w fun e w' => ∃ v', e = .returned v' ∧ Row w' w.heap.size v' (sealF l) ∧ Below w.heap.size w w' := by
  have HS := Lib.hid (sum_any v l w hv hl ht)
  obtain ⟨x, hx⟩ : ∃ x, x = sum l := ⟨_, rfl⟩
  rw [← hx] at HS
  have HX := Lib.hid hx
  clear hv hl ht hx
  go_enter Tryz.func153, Tryz.ntmps153
  go_wp2_with fail
  refine HS.out.mono ?_
  rintro e w' ⟨rfl, rfl⟩
  go_wp2
  go_ret
  refine ⟨_, rfl, ?_, (Below.refl _ _).alloc (Nat.le_refl _) _⟩
  unfold sealF
  rw [← HX.out]
  exact four_row w x

end Go.Proofs.YthaggdkfaglgaaaGreatDoor

