/- Reading, by what is left: the readers' calls; giving up. -/
import Derived.Test.YtboongdoggggoaaCmdKit
namespace Go.Proofs.Ytboongdoggggoaa
set_option maxRecDepth 20000
open Go.RowKit BinMath CmdMath
variable {G : Nat}

/-- What a reading of an entry that gives up panics with. -/
abbrev lostC (c : Nat) : List PanicEntry := gaveUp (c : Int)

theorem must_ok (w : World) : Calls Try.prog 60 #[.int .i64 0] w fun e w' => e = .returned (.tuple #[]) ∧ w' = w := quit_ok w

theorem must_bad (c : Nat) (w : World) (hc : c ≠ 0) : Calls Try.prog 60 #[.int .i64 (c : Int)] w fun e w' => e = .panicked (lostC c) ∧ w' = w := quit_bad c (by omega) w

theorem ask_yes (w : World) : Calls Try.prog 115 #[.bool true] w fun e w' => e = .returned (.tuple #[]) ∧ w' = w := by
  go_enter Try.func115, Try.ntmps115
  go_wp2
  exact ⟨rfl, .tuple #[], by simp [results, Try.results115, go_sem], rfl, rfl⟩

theorem ask_no (w : World) : Calls Try.prog 115 #[.bool false] w fun e w' => e = .panicked (lostC 3) ∧ w' = w := by
  go_enter Try.func115, Try.ntmps115
  go_wp2_with fail
  refine (must_bad 3 _ (by decide)).mono ?_
  rintro e w' ⟨rfl, rfl⟩
  exact ⟨rfl, rfl, rfl⟩

theorem takeNum_ok (n : Nat) (w : World) : Calls Try.prog 114 #[.int .u64 (n : Int), .int .i64 0] w fun e w' => e = .returned (.int .u64 (n : Int)) ∧ w' = w := by
  go_enter Try.func114, Try.ntmps114
  go_wp2_with fail
  refine (must_ok _).mono ?_
  rintro e w' ⟨rfl, rfl⟩
  go_wp2
  go_ret
  exact ⟨rfl, rfl⟩

theorem takeNum_bad (n : Nat) (c : Nat) (w : World) (hc : c ≠ 0) : Calls Try.prog 114 #[.int .u64 (n : Int), .int .i64 (c : Int)] w fun e w' => e = .panicked (lostC c) ∧ w' = w := by
  have HM := Lib.hid (fun w => must_bad c w hc)
  clear hc
  go_enter Try.func114, Try.ntmps114
  go_wp2_with fail
  refine (HM.out _).mono ?_
  rintro e w' ⟨rfl, rfl⟩
  exact ⟨rfl, rfl, rfl⟩

theorem takeByte_ok (n : Nat) (w : World) : Calls Try.prog 116 #[.int .u8 (n : Int), .int .i64 0] w fun e w' => e = .returned (.int .u8 (n : Int)) ∧ w' = w := by
  go_enter Try.func116, Try.ntmps116
  go_wp2_with fail
  refine (must_ok _).mono ?_
  rintro e w' ⟨rfl, rfl⟩
  go_wp2
  go_ret
  exact ⟨rfl, rfl⟩

theorem takeByte_bad (n : Nat) (c : Nat) (w : World) (hc : c ≠ 0) : Calls Try.prog 116 #[.int .u8 (n : Int), .int .i64 (c : Int)] w fun e w' => e = .panicked (lostC c) ∧ w' = w := by
  have HM := Lib.hid (fun w => must_bad c w hc)
  clear hc
  go_enter Try.func116, Try.ntmps116
  go_wp2_with fail
  refine (HM.out _).mono ?_
  rintro e w' ⟨rfl, rfl⟩
  exact ⟨rfl, rfl, rfl⟩

theorem takeRaw_ok (v : Value) (w : World) : Calls Try.prog 117 #[v, .int .i64 0] w fun e w' => e = .returned (v) ∧ w' = w := by
  go_enter Try.func117, Try.ntmps117
  go_wp2_with fail
  refine (must_ok _).mono ?_
  rintro e w' ⟨rfl, rfl⟩
  go_wp2
  go_ret
  exact ⟨rfl, rfl⟩

theorem takeRaw_bad (v : Value) (c : Nat) (w : World) (hc : c ≠ 0) : Calls Try.prog 117 #[v, .int .i64 (c : Int)] w fun e w' => e = .panicked (lostC c) ∧ w' = w := by
  have HM := Lib.hid (fun w => must_bad c w hc)
  clear hc
  go_enter Try.func117, Try.ntmps117
  go_wp2_with fail
  refine (HM.out _).mono ?_
  rintro e w' ⟨rfl, rfl⟩
  exact ⟨rfl, rfl, rfl⟩

/-- A reader that isn't stuck, and the bytes that it has ahead of it. -/
def At (w : World) (R G : Nat) (l r : List UInt8) : Prop := ∃ k, IsRd w R G l k 0 ∧ r = l.drop k

/-- The reference's. -/
def RAt (w : World) (Q G : Nat) (a : Option Addr) (cap : Nat) (l r : List UInt8) : Prop := ∃ k, IsRef w Q G a cap l k 0 ∧ r = l.drop k

theorem gNum_pNum {l q : List UInt8} {k n : Nat} (h : gNum (l.drop k) = .ok (n, q)) : ∃ u, numS l k 0 = (n, 0, k + u) ∧ q = l.drop (k + u) := by
  unfold gNum at h
  unfold numS
  simp only [ne_eq, not_true_eq_false, if_false]
  cases hp : pNum (l.drop k) with
  | error c => rw [hp] at h; cases h
  | ok p =>
    obtain ⟨m, u⟩ := p
    rw [hp] at h
    simp at h
    obtain ⟨rfl, rfl⟩ := h
    exact ⟨u, rfl, by rw [← List.drop_drop]⟩

theorem gNum_bad {l : List UInt8} {k c : Nat} (h : gNum (l.drop k) = .error c) : numS l k 0 = (0, c, k) := by
  unfold gNum at h
  unfold numS
  simp only [ne_eq, not_true_eq_false, if_false]
  cases hp : pNum (l.drop k) with
  | error d => rw [hp] at h; cases h; rfl
  | ok p => rw [hp] at h; cases h

theorem gByte_ok {l q : List UInt8} {k n : Nat} (h : gByte (l.drop k) = .ok (n, q)) : byteS l k 0 = (n, 0, k + 1) ∧ q = l.drop (k + 1) := by
  unfold byteS
  simp only [ne_eq, not_true_eq_false, if_false]
  cases hp : l.drop k with
  | nil => rw [hp] at h; cases h
  | cons c r =>
    rw [hp] at h
    simp [gByte] at h
    obtain ⟨rfl, rfl⟩ := h
    refine ⟨rfl, ?_⟩
    rw [← List.drop_drop, hp]
    rfl

theorem gByte_bad {l : List UInt8} {k c : Nat} (h : gByte (l.drop k) = .error c) : byteS l k 0 = (0, c, k) := by
  unfold byteS
  simp only [ne_eq, not_true_eq_false, if_false]
  cases hp : l.drop k with
  | nil => rw [hp] at h; simp [gByte] at h; rw [← h]
  | cons c r => rw [hp] at h; cases h

theorem gText_ok {l q t : List UInt8} {k most : Nat} (h : gText most (l.drop k) = .ok (t, q)) : ∃ u, textS l most k 0 = (t, 0, k + u) ∧ q = l.drop (k + u) := by
  unfold gText at h
  unfold textS
  simp only [ne_eq, not_true_eq_false, if_false]
  cases hp : pText most (l.drop k) with
  | error c => rw [hp] at h; cases h
  | ok p =>
    obtain ⟨m, u⟩ := p
    rw [hp] at h
    simp at h
    obtain ⟨rfl, rfl⟩ := h
    exact ⟨u, rfl, by rw [← List.drop_drop]⟩

theorem gText_bad {l : List UInt8} {k most c : Nat} (h : gText most (l.drop k) = .error c) : textS l most k 0 = ([], c, k) := by
  unfold gText at h
  unfold textS
  simp only [ne_eq, not_true_eq_false, if_false]
  cases hp : pText most (l.drop k) with
  | error d => rw [hp] at h; cases h; rfl
  | ok p => rw [hp] at h; cases h

theorem endS_at {l r : List UInt8} {k : Nat} (h : r = l.drop k) : endS l k 0 = if r = [] then 0 else 5 := by
  subst h
  unfold endS
  simp only [ne_eq, not_true_eq_false, if_false, List.drop_eq_nil_iff]
  by_cases hk : k < l.length
  · rw [if_pos hk, if_neg (by omega)]
  · rw [if_neg hk, if_pos (by omega)]

theorem readNum_ok {R : Nat} {l r q : List UInt8} {n : Nat} {w : World} (h : At w R G l r) (hg : gNum r = .ok (n, q)) :
    Calls Try.prog 16 #[.pointer (some ⟨R, 0, none⟩)] w fun e w' => e = .returned (.tuple #[.int .u64 (n : Int), .int .i64 0]) ∧ At w' R G l q ∧ Only R w w' := by
  obtain ⟨k, hk, rfl⟩ := h
  obtain ⟨u, e1, rfl⟩ := gNum_pNum hg
  have hN := rdNum_any R l k 0 w hk
  rw [e1] at hN
  exact hN.mono fun e w' ⟨h1, h2, h3⟩ => ⟨h2, ⟨_, h3, rfl⟩, h1⟩

theorem readNum_bad {R : Nat} {l r : List UInt8} {c : Nat} {w : World} (h : At w R G l r) (hg : gNum r = .error c) :
    Calls Try.prog 16 #[.pointer (some ⟨R, 0, none⟩)] w fun e w' => e = .returned (.tuple #[.int .u64 0, .int .i64 (c : Int)]) ∧ Only R w w' := by
  obtain ⟨k, hk, rfl⟩ := h
  have hN := rdNum_any R l k 0 w hk
  rw [gNum_bad hg] at hN
  exact hN.mono fun e w' ⟨h1, h2, _⟩ => ⟨h2, h1⟩

theorem readByte_ok {R : Nat} {l r q : List UInt8} {n : Nat} {w : World} (h : At w R G l r) (hg : gByte r = .ok (n, q)) :
    Calls Try.prog 14 #[.pointer (some ⟨R, 0, none⟩)] w fun e w' => e = .returned (.tuple #[.int .u8 (n : Int), .int .i64 0]) ∧ At w' R G l q ∧ Only R w w' := by
  obtain ⟨k, hk, rfl⟩ := h
  obtain ⟨e1, rfl⟩ := gByte_ok hg
  have hN := rdByte_any R l k 0 w hk
  rw [e1] at hN
  exact hN.mono fun e w' ⟨h1, h2, h3⟩ => ⟨h2, ⟨_, h3, rfl⟩, h1⟩

theorem readByte_bad {R : Nat} {l r : List UInt8} {c : Nat} {w : World} (h : At w R G l r) (hg : gByte r = .error c) :
    Calls Try.prog 14 #[.pointer (some ⟨R, 0, none⟩)] w fun e w' => e = .returned (.tuple #[.int .u8 0, .int .i64 (c : Int)]) ∧ Only R w w' := by
  obtain ⟨k, hk, rfl⟩ := h
  have hN := rdByte_any R l k 0 w hk
  rw [gByte_bad hg] at hN
  exact hN.mono fun e w' ⟨h1, h2, _⟩ => ⟨h2, h1⟩

theorem readRaw_ok {R : Nat} {l r q t : List UInt8} {w : World} (h : At w R G l r) (hg : gText 64 r = .ok (t, q)) :
    Calls Try.prog 18 #[.pointer (some ⟨R, 0, none⟩), .int .i64 64] w fun e w' => ∃ v, e = .returned (.tuple #[v, .int .i64 0]) ∧ Row w' w.heap.size v t ∧ At w' R G l q ∧ Only R w w' := by
  obtain ⟨k, hk, rfl⟩ := h
  obtain ⟨u, e1, rfl⟩ := gText_ok hg
  have hN := rdRaw_any R l k 0 64 (by omega) w hk
  rw [show (64 : Int).toNat = 64 from rfl, e1] at hN
  exact hN.mono fun e w' ⟨h1, v, h2, h3, h4⟩ => ⟨v, h2, h3, ⟨_, h4, rfl⟩, h1⟩

theorem readRaw_bad {R : Nat} {l r : List UInt8} {c : Nat} {w : World} (h : At w R G l r) (hg : gText 64 r = .error c) :
    Calls Try.prog 18 #[.pointer (some ⟨R, 0, none⟩), .int .i64 64] w fun e w' => ∃ v, e = .returned (.tuple #[v, .int .i64 (c : Int)]) ∧ (∃ a, v = .slice a 0 0 ∨ ∃ cap, v = .slice a 0 cap) ∧ Only R w w' := by
  obtain ⟨k, hk, rfl⟩ := h
  have hN := rdRaw_any R l k 0 64 (by omega) w hk
  rw [show (64 : Int).toNat = 64 from rfl, gText_bad hg] at hN
  exact hN.mono fun e w' ⟨h1, v, h2, h3, _⟩ => ⟨v, h2, by obtain ⟨a', c', e⟩ := slice_of_row h3; exact ⟨a', .inr ⟨c', e⟩⟩, h1⟩

theorem readEnd_any {R : Nat} {l r : List UInt8} {w : World} (h : At w R G l r) :
    Calls Try.prog 20 #[.pointer (some ⟨R, 0, none⟩)] w fun e w' => e = .returned (.int .i64 ((if r = [] then 0 else 5 : Nat) : Int)) ∧ Only R w w' := by
  obtain ⟨k, hk, hr⟩ := h
  have hN := rdEnd_any R l k 0 w hk
  rw [endS_at hr] at hN
  exact hN.mono fun e w' ⟨h1, _, h3⟩ => ⟨h1, h3⟩

theorem refreadNum_ok {Q : Nat} {a : Option Addr} {cap : Nat} {l r q : List UInt8} {n : Nat} {w : World} (h : RAt w Q G a cap l r) (hg : gNum r = .ok (n, q)) :
    Calls Try.prog 17 #[.pointer (some ⟨Q, 0, none⟩)] w fun e w' => e = .returned (.tuple #[.int .u64 (n : Int), .int .i64 0]) ∧ RAt w' Q G a cap l q ∧ Only Q w w' := by
  obtain ⟨k, hk, rfl⟩ := h
  obtain ⟨u, e1, rfl⟩ := gNum_pNum hg
  have hN := refNum_any Q l k 0 w hk
  rw [e1] at hN
  exact hN.mono fun e w' ⟨h1, h2, h3⟩ => ⟨h2, ⟨_, h3, rfl⟩, h1⟩

theorem refreadNum_bad {Q : Nat} {a : Option Addr} {cap : Nat} {l r : List UInt8} {c : Nat} {w : World} (h : RAt w Q G a cap l r) (hg : gNum r = .error c) :
    Calls Try.prog 17 #[.pointer (some ⟨Q, 0, none⟩)] w fun e w' => e = .returned (.tuple #[.int .u64 0, .int .i64 (c : Int)]) ∧ Only Q w w' := by
  obtain ⟨k, hk, rfl⟩ := h
  have hN := refNum_any Q l k 0 w hk
  rw [gNum_bad hg] at hN
  exact hN.mono fun e w' ⟨h1, h2, _⟩ => ⟨h2, h1⟩

theorem refreadByte_ok {Q : Nat} {a : Option Addr} {cap : Nat} {l r q : List UInt8} {n : Nat} {w : World} (h : RAt w Q G a cap l r) (hg : gByte r = .ok (n, q)) :
    Calls Try.prog 15 #[.pointer (some ⟨Q, 0, none⟩)] w fun e w' => e = .returned (.tuple #[.int .u8 (n : Int), .int .i64 0]) ∧ RAt w' Q G a cap l q ∧ Only Q w w' := by
  obtain ⟨k, hk, rfl⟩ := h
  obtain ⟨e1, rfl⟩ := gByte_ok hg
  have hN := refByte_any Q l k 0 w hk
  rw [e1] at hN
  exact hN.mono fun e w' ⟨h1, h2, h3⟩ => ⟨h2, ⟨_, h3, rfl⟩, h1⟩

theorem refreadByte_bad {Q : Nat} {a : Option Addr} {cap : Nat} {l r : List UInt8} {c : Nat} {w : World} (h : RAt w Q G a cap l r) (hg : gByte r = .error c) :
    Calls Try.prog 15 #[.pointer (some ⟨Q, 0, none⟩)] w fun e w' => e = .returned (.tuple #[.int .u8 0, .int .i64 (c : Int)]) ∧ Only Q w w' := by
  obtain ⟨k, hk, rfl⟩ := h
  have hN := refByte_any Q l k 0 w hk
  rw [gByte_bad hg] at hN
  exact hN.mono fun e w' ⟨h1, h2, _⟩ => ⟨h2, h1⟩

theorem refreadRaw_ok {Q : Nat} {a : Option Addr} {cap : Nat} {l r q t : List UInt8} {w : World} (h : RAt w Q G a cap l r) (hg : gText 64 r = .ok (t, q)) :
    Calls Try.prog 19 #[.pointer (some ⟨Q, 0, none⟩), .int .i64 64] w fun e w' => ∃ v, e = .returned (.tuple #[v, .int .i64 0]) ∧ Row w' w.heap.size v t ∧ RAt w' Q G a cap l q ∧ Only Q w w' := by
  obtain ⟨k, hk, rfl⟩ := h
  obtain ⟨u, e1, rfl⟩ := gText_ok hg
  have hN := refRaw_any Q l k 0 64 (by omega) w hk
  rw [show (64 : Int).toNat = 64 from rfl, e1] at hN
  exact hN.mono fun e w' ⟨h1, v, h2, h3, h4⟩ => ⟨v, h2, h3, ⟨_, h4, rfl⟩, h1⟩

theorem refreadRaw_bad {Q : Nat} {a : Option Addr} {cap : Nat} {l r : List UInt8} {c : Nat} {w : World} (h : RAt w Q G a cap l r) (hg : gText 64 r = .error c) :
    Calls Try.prog 19 #[.pointer (some ⟨Q, 0, none⟩), .int .i64 64] w fun e w' => ∃ v, e = .returned (.tuple #[v, .int .i64 (c : Int)]) ∧ (∃ a, v = .slice a 0 0 ∨ ∃ cap, v = .slice a 0 cap) ∧ Only Q w w' := by
  obtain ⟨k, hk, rfl⟩ := h
  have hN := refRaw_any Q l k 0 64 (by omega) w hk
  rw [show (64 : Int).toNat = 64 from rfl, gText_bad hg] at hN
  exact hN.mono fun e w' ⟨h1, v, h2, h3, _⟩ => ⟨v, h2, by obtain ⟨a', c', e⟩ := slice_of_row h3; exact ⟨a', .inr ⟨c', e⟩⟩, h1⟩

theorem refreadEnd_any {Q : Nat} {a : Option Addr} {cap : Nat} {l r : List UInt8} {w : World} (h : RAt w Q G a cap l r) :
    Calls Try.prog 21 #[.pointer (some ⟨Q, 0, none⟩)] w fun e w' => e = .returned (.int .i64 ((if r = [] then 0 else 5 : Nat) : Int)) ∧ Only Q w w' := by
  obtain ⟨k, hk, hr⟩ := h
  have hN := refEnd_any Q l k 0 w hk
  rw [endS_at hr] at hN
  exact hN.mono fun e w' ⟨h1, _, h3⟩ => ⟨h1, h3⟩

end Go.Proofs.Ytboongdoggggoaa
