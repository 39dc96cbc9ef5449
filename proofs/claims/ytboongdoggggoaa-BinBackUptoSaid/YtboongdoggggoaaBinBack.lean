/- BinBack: numbers and texts one behind the other; what is known of them. -/
import Derived.Test.YtboongdoggggoaaBinNew
import Derived.Test.YtboongdoggggoaaFacts
import Derived.Test.YtboongdoggggoaaTexts
namespace Go.Proofs.Ytboongdoggggoaa
set_option maxRecDepth 20000
open Go.RowKit BinMath Reg

/-- What round i lays. -/
def stepL (N : List Nat) (T : List (List UInt8)) (i : Nat) : List UInt8 := ((N[i]?).elim [] numL) ++ ((T[i]?).elim [] rawL)

/-- What the first i rounds lay. -/
def laid (N : List Nat) (T : List (List UInt8)) : Nat → List UInt8
  | 0 => []
  | i + 1 => laid N T i ++ stepL N T i

theorem laid_rest (N : List Nat) (T : List (List UInt8)) (i : Nat) : ∀ d, ∃ r, laid N T (i + d) = laid N T i ++ r
  | 0 => ⟨[], by simp⟩
  | d + 1 => by
    obtain ⟨r, hr⟩ := laid_rest N T i d
    exact ⟨r ++ stepL N T (i + d), by rw [← Nat.add_assoc, laid, hr, List.append_assoc]⟩

/-- What lies ahead when i rounds are read. -/
theorem laid_ahead (N : List Nat) (T : List (List UInt8)) (i M : Nat) (h : i < M) : ∃ r, (laid N T M).drop (laid N T i).length = stepL N T i ++ r := by
  obtain ⟨r, hr⟩ := laid_rest N T (i + 1) (M - (i + 1))
  rw [show i + 1 + (M - (i + 1)) = M by omega] at hr
  refine ⟨r, ?_⟩
  rw [hr, laid, List.append_assoc, List.drop_left]

theorem laid_le (N : List Nat) (T : List (List UInt8)) (hN : ∀ n ∈ N, n < 18446744073709551616) (hT : ∀ t ∈ T, t.length ≤ 1048576) : ∀ i, (laid N T i).length ≤ i * 1048600
  | 0 => by simp [laid]
  | i + 1 => by
    have h := laid_le N T hN hT i
    have h1 : ((N[i]?).elim [] numL).length ≤ 9 := by
      cases hn : N[i]? with
      | none => simp
      | some n =>
        have := nb_le n (hN n (List.mem_of_getElem? hn))
        simp [numL_length]
        omega
    have h2 : ((T[i]?).elim [] rawL).length ≤ 1048585 := by
      cases ht : T[i]? with
      | none => simp
      | some t =>
        have h3 := hT t (List.mem_of_getElem? ht)
        have := nb_le t.length (by omega)
        simp [rawL, numL_length]
        omega
    simp only [laid, stepL, List.length_append]
    omega

theorem numS_at {l r : List UInt8} {k n : Nat} (h : l.drop k = numL n ++ r) (hn : n < 18446744073709551616) : numS l k 0 = (n, 0, k + (numL n).length) := by
  simp [numS, h, pNum_numL n r hn]

theorem textS_at {l r t : List UInt8} {k : Nat} (h : l.drop k = rawL t ++ r) (ht : t.length < 18446744073709551616) : textS l t.length k 0 = (t, 0, k + (rawL t).length) := by
  have h2 : l.drop k = numL t.length ++ (t ++ r) := by rw [h, rawL, List.append_assoc]
  simp [textS, h2, pText_rawL t r ht t.length (Nat.le_refl _), rawL]

/-- The numbers that came in. -/
def NumsAt (w : World) (a : Option Addr) (N : List Nat) : Prop := ∀ (i n : Nat), N[i]? = some n → n < 18446744073709551616 ∧ ∃ ad, a = some ad ∧ w.cell? (ad.add i) = some (.int .u64 (n : Int))

theorem NumsAt.below {w w' : World} {a : Option Addr} {N : List Nat} (h : NumsAt w a N) (hb : Below w.heap.size w w') : NumsAt w' a N := fun i n hi => by
  obtain ⟨h1, ad, h2, h3⟩ := h i n hi
  exact ⟨h1, ad, h2, by rw [hb.cell (World.block_lt_of_cell? w _ h3)]; exact h3⟩

theorem row_below {w w' : World} {B : Nat} {v : Value} {l : List UInt8} (h : Row w B v l) (hb : Below w.heap.size w w') : Row w' B v l := h.below hb

/-- A number is read where it was laid. -/
theorem read_num (R G : Nat) (l r : List UInt8) (k n : Nat) (w : World) (h : IsRd w R G l k 0) (hd : l.drop k = numL n ++ r) (hn : n < 18446744073709551616) :
    Calls Try.prog 16 #[.pointer (some ⟨R, 0, none⟩)] w fun e w' => Only R w w' ∧ e = .returned (.tuple #[.int .u64 (n : Int), .int .i64 0]) ∧ IsRd w' R G l (k + (numL n).length) 0 := by
  have hq := rdNum_any R l k 0 w h
  rw [numS_at hd hn] at hq
  exact hq

/-- A text is read where it was laid. -/
theorem read_text (R G : Nat) (l r t : List UInt8) (k q : Nat) (w : World) (h : IsRd w R G l k 0) (hd : l.drop k = rawL t ++ r) (hq : q = t.length) (ht : t.length ≤ 1048576) :
    Calls Try.prog 18 #[.pointer (some ⟨R, 0, none⟩), .int .i64 (q : Int)] w fun e w' => Only R w w' ∧ ∃ A C, e = .returned (.tuple #[.slice A q C, .int .i64 0]) ∧ Bys w' (.slice A q C) t ∧ IsRd w' R G l (k + (rawL t).length) 0 := by
  subst hq
  have h1 := rdRaw_any R l k 0 (t.length : Int) ⟨by omega, by omega⟩ w h
  rw [Int.toNat_natCast, textS_at hd (by omega)] at h1
  refine h1.mono ?_
  rintro e w' ⟨ho, v, rfl, hr, hi⟩
  obtain ⟨A, C, rfl⟩ := slice_of_row hr
  exact ⟨ho, A, C, rfl, hr.bys, hi⟩

/-- The conversion, at every draw. -/
theorem conv_drew {w : World} {v : Value} {l : List UInt8} (h : Bys w v l) (n : Nat) : (convert 22 9 v).run Try.prog (w.drewN n) = .ok (.string ⟨l.toArray⟩) (w.drewN n) :=
  conv_bys (w := w.drewN n) (h.below (Nat.le_refl _) ⟨rfl, rfl, rfl, Nat.le_refl _, fun _ _ => rfl⟩)

end Go.Proofs.Ytboongdoggggoaa
