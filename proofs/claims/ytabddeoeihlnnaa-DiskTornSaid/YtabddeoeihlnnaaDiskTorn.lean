/- DiskTorn: the walk. -/
import Derived.Test.YtabddeoeihlnnaaDiskFuses
import Derived.BigQuiet
import Derived.Deep.QuietTactic
namespace Go.Proofs.Ytabddeoeihlnnaa
open Go.RowKit Go.Maps DiskMath

theorem modl_place (x : Int) (L : Nat) (hL : L ≤ 34374418432) : ∃ m : Nat, wrap64 ((IntKind.u64.wrap x).tmod ((L : Int) + 1)) = (m : Int) ∧ m ≤ L := by
  rw [IntKind.wrap_u64]
  have h0 : 0 ≤ x % 18446744073709551616 := Int.emod_nonneg _ (by decide)
  rw [Int.tmod_eq_emod_of_nonneg h0]
  have h1 : 0 ≤ (x % 18446744073709551616) % ((L : Int) + 1) := Int.emod_nonneg _ (by omega)
  have h2 : (x % 18446744073709551616) % ((L : Int) + 1) < (L : Int) + 1 := Int.emod_lt_of_pos _ (by omega)
  refine ⟨((x % 18446744073709551616) % ((L : Int) + 1)).toNat, ?_, by omega⟩
  rw [IntWalk.wrap64_in _ ⟨by omega, by omega⟩, Int.toNat_of_nonneg h1]

theorem lay_nil (b : List UInt8) : layT [] 0 b = b := by
  unfold layT
  split
  · rename_i h; rw [h]
  · simp

theorem named_f : named [102] = true := by decide

/-- The files of DiskTorn. -/
def one (t : List UInt8) : Fs := [([102], t)]
theorem one_get (t : List UInt8) : getA [102] (one t) = some t := rfl
theorem one_put (t u : List UInt8) : putA [102] u (one t) = one u := rfl
theorem one_tot (t : List UInt8) : tot (one t) = t.length := by simp [tot, one]

theorem t_first (old : List UInt8) (h : old.length ≤ 3000) : (St.new 1073741824).write [102] 0 old = (0, ⟨one old, [], [⟨0, [102], [], 0, old⟩], 1073741824, -1, false⟩) := by
  have hg : getA [102] ([] : Fs) = none := rfl
  have hu : used [] [102] 0 old.length ≤ 3000 := by
    unfold used
    rw [hg]
    split
    · simp [tot]
    · simp [tot]
      omega
  have hd : doA ⟨0, [102], [], 0, old⟩ [] = one old := by
    show putA [102] (layT [] 0 old) [] = _
    rw [lay_nil]
    rfl
  unfold St.write St.new
  simp only [named_f, Bool.false_eq_true, if_false, Bool.not_true]
  rw [if_neg (by omega), if_neg (by show ¬ max (1073741824 : Int) 0 < (used [] [102] (0 : Int).toNat old.length : Int); rw [show (0 : Int).toNat = 0 from rfl]; omega)]
  simp only [St.said, St.run, St.burn]
  rw [show (0 : Int).toNat = 0 from rfl, hd]
  rfl

theorem t_sync (old : List UInt8) (ops : List AOp) : (⟨one old, [], ops, 1073741824, -1, false⟩ : St).sync = (0, ⟨one old, one old, [], 1073741824, -1, false⟩) := rfl

theorem t_second (old b : List UInt8) (m : Nat) (hm : m ≤ old.length) (h : old.length ≤ 3000) (hb : b.length ≤ 3000) :
    (⟨one old, one old, [], 1073741824, -1, false⟩ : St).write [102] (m : Int) b = (0, ⟨one (layT old m b), one old, [⟨0, [102], [], m, b⟩], 1073741824, -1, false⟩) := by
  have hu : used (one old) [102] m b.length ≤ 9000 := by
    unfold used
    rw [one_get, one_tot]
    simp only [Option.getD_some]
    split <;> omega
  have hd : doA ⟨0, [102], [], m, b⟩ (one old) = one (layT old m b) := by
    show putA [102] (layT ((getA [102] (one old)).getD []) m b) (one old) = _
    rw [one_get, one_put]
    rfl
  unfold St.write
  simp only [named_f, Bool.false_eq_true, if_false, Bool.not_true, Int.toNat_natCast]
  rw [if_neg (by omega), if_neg (by omega)]
  simp only [St.said, St.run, St.burn]
  rw [hd]
  rfl

theorem t_crash (old b : List UInt8) (m : Nat) (torn : Int) : ((⟨one (layT old m b), one old, [⟨0, [102], [], m, b⟩], 1073741824, -1, false⟩ : St).crash [true] torn).read [102] = (0, layT old m (b.take (max torn 0).toNat)) := by
  have hd : doA ⟨0, [102], [], m, b.take (max torn 0).toNat⟩ (one old) = one (layT old m (b.take (max torn 0).toNat)) := by
    show putA [102] (layT ((getA [102] (one old)).getD []) m _) (one old) = _
    rw [one_get, one_put]
    rfl
  unfold St.crash
  simp only [keptA, if_true, tornA, doAllA, List.foldl_cons, List.foldl_nil]
  rw [hd]
  rfl

/-- What is left: its length, its bytes. -/
theorem torn_length' (old b : List UInt8) (m n : Nat) (hm : m ≤ old.length) (hn : n ≤ b.length) : (layT old m (b.take n)).length = max old.length (m + n) := by
  by_cases h : b.take n = []
  · have hn0 : n = 0 := by
      have h0 : (b.take n).length = 0 := by rw [h]; rfl
      rw [List.length_take] at h0
      omega
    unfold layT
    rw [if_pos h]
    omega
  · rw [layT_length _ _ _ h, List.length_take]
    omega

theorem torn_at (old b : List UInt8) (m n : Nat) (hm : m ≤ old.length) (hn : n ≤ b.length) (i : Nat) (y : UInt8) (h : (layT old m (b.take n))[i]? = some y) : if m ≤ i ∧ i < m + n then b[i - m]? = some y else old[i]? = some y := by
  by_cases hz : b.take n = []
  · have hn0 : n = 0 := by
      have h0 : (b.take n).length = 0 := by rw [hz]; rfl
      rw [List.length_take] at h0
      omega
    unfold layT at h
    rw [if_pos hz] at h
    rw [if_neg (by omega)]
    exact h
  · unfold layT at h
    rw [if_neg hz] at h
    have e1 : (old ++ List.replicate (m - old.length) 0).take m = old.take m := by rw [List.take_append_of_le_length hm]
    have hbl : (b.take n).length = n := by rw [List.length_take]; omega
    have hol : (old.take m).length = m := by rw [List.length_take]; omega
    rw [e1, hbl] at h
    by_cases h1 : i < m
    · rw [if_neg (by omega)]
      rw [List.append_assoc, List.getElem?_append_left (by omega), List.getElem?_take_of_lt h1] at h
      exact h
    · by_cases h2 : i < m + n
      · rw [if_pos (by omega)]
        rw [List.append_assoc, List.getElem?_append_right (by omega), hol, List.getElem?_append_left (by omega), List.getElem?_take_of_lt (by omega)] at h
        exact h
      · rw [if_neg (by omega)]
        rw [List.getElem?_append_right (by rw [List.length_append]; omega), List.length_append, hol, hbl, List.getElem?_drop, show m + n + (i - (m + n)) = i by omega] at h
        exact h

/-- A byte of a slice, wherever it lies. -/
theorem bys_cell {w : World} {a : Option Addr} {n c : Nat} {l : List UInt8} (h : Bys w (.slice a n c) l) {i : Nat} {y : UInt8} (hi : l[i]? = some y) : ∃ ad, a = some ad ∧ n = l.length ∧ w.cell? (ad.add i) = some (.int .u8 (y.toNat : Int)) := by
  obtain ⟨hl, rfl⟩ := List.getElem?_eq_some_iff.1 hi
  rcases h with ⟨_, rfl⟩ | ⟨ad, cap, e, hc⟩
  · simp at hl
  · simp at e
    obtain ⟨rfl, rfl, rfl⟩ := e
    exact ⟨ad, rfl, rfl, hc i hl⟩

theorem below_dn {B : Nat} {w W : World} (h : Below B w W) (q : Nat) : Below B w (W.drewN q) := ⟨h.os, h.tape, h.output, h.size, h.block⟩

set_option maxHeartbeats 2000000 in
set_option maxRecDepth 20000 in
theorem torn_walk (a0 : Option Addr) (l0 c0 : Nat) (old : List UInt8) (a1 : Option Addr) (l1 c1 : Nat) (b : List UInt8) (at_ torn : Int) (w : World) (hold : Bys w (.slice a0 l0 c0) old) (hl0 : old.length = l0) (hb : Bys w (.slice a1 l1 c1) b) (hl1 : b.length = l1) :
    Calls Try.prog 5 #[.slice a0 l0 c0, .slice a1 l1 c1, .int .i64 at_, .int .i64 torn] w fun e w' => e = .returned (.bool true) ∧ Below w.heap.size w w' := by
  have HOld := Lib.hid hold
  have HB := Lib.hid hb
  have HL0 := Lib.hid hl0
  have HL1 := Lib.hid hl1
  clear hold hb hl0 hl1
  go_enter Try.func5, Try.ntmps5
  go_wp2_with fail
  refine (dawake_any w).mono ?_
  rintro e w1 ⟨rfl, hb1⟩
  have HB1 := Lib.hid hb1
  clear hb1
  by_cases h3 : 3000 < l0
  · have i1 : decide ((3000 : Int) < (l0 : Int)) = true := by simp; omega
    go_wp2_with fail
    refine (dawake_any w1).mono ?_
    rintro e w2 ⟨rfl, hb2⟩
    have HB2 := Lib.hid (HB1.out.trans (hb2.mono HB1.out.size))
    clear hb2
    go_wp2
    go_ret
    exact ⟨rfl, HB2.out⟩
  have i1 : decide ((3000 : Int) < (l0 : Int)) = false := by simp; omega
  by_cases h4 : 3000 < l1
  · have i2 : decide ((3000 : Int) < (l1 : Int)) = true := by simp; omega
    go_wp2_with fail
    refine (dawake_any w1).mono ?_
    rintro e w2 ⟨rfl, hb2⟩
    have HB2 := Lib.hid (HB1.out.trans (hb2.mono HB1.out.size))
    clear hb2
    go_wp2
    go_ret
    exact ⟨rfl, HB2.out⟩
  have i2 : decide ((3000 : Int) < (l1 : Int)) = false := by simp; omega
  go_wp2_with fail
  refine (lnew_any w w1 1073741824 HB1.out).mono ?_
  rintro e w2 ⟨d, rfl, hl2⟩
  obtain ⟨m, hm, hml⟩ := modl_place at_ l0 (by omega)
  rw [hm]
  have HL2 := Lib.hid hl2
  clear hl2 hm i1 i2
  go_wp2_with fail
  have h := lwrite_any HL2.out (n := [102]) (a := 0) (by omega) (by decide) (by omega) (HOld.out.below (Nat.le_refl _) HL2.out.bel) HL0.out (by omega)
  rw [t_first old (by have := HL0.out; omega)] at h
  refine h.mono ?_
  clear h
  rintro e w3 ⟨rfl, hl3⟩
  have HL3 := Lib.hid hl3
  clear hl3
  go_wp2_with fail
  have h := lsync_any HL3.out
  rw [show ((0, ⟨one old, [], [⟨0, [102], [], 0, old⟩], 1073741824, -1, false⟩) : Nat × St).2.sync = (0, ⟨one old, one old, [], 1073741824, -1, false⟩) from t_sync old _] at h
  refine h.mono ?_
  clear h
  rintro e w4 ⟨rfl, hl4⟩
  have HL4 : Hid (Lone w w4 d 1 ⟨one old, one old, [], 1073741824, -1, false⟩) := hl4
  clear hl4
  go_wp2_with fail
  have h := lwrite_any HL4.out (n := [102]) (a := (m : Int)) (by omega) (by decide) (by omega) (HB.out.below (Nat.le_refl _) HL4.out.bel) HL1.out (by omega)
  rw [t_second old b m (by have := HL0.out; omega) (by have := HL0.out; omega) (by have := HL1.out; omega)] at h
  refine h.mono ?_
  clear h
  rintro e w5 ⟨rfl, hl5⟩
  have HL5 : Hid (Lone w w5 d 2 ⟨one (layT old m b), one old, [⟨0, [102], [], m, b⟩], 1073741824, -1, false⟩) := hl5
  clear hl5
  go_wp2_with fail
  have hb6 : Below w5.heap.size w5 (w5.alloc (.cells #[.bool true] 4)) := (Below.refl _ _).alloc (Nat.le_refl _) _
  have hbl : Bls (w5.alloc (.cells #[.bool true] 4)) (.slice (some ⟨w5.heap.size, 0, none⟩) 1 1) [true] := ⟨_, 1, rfl, fun i b h => ⟨_, rfl, by
    obtain ⟨hi, rfl⟩ := List.getElem?_eq_some_iff.1 h
    obtain rfl : i = 0 := by simp at hi; exact hi
    simp [Addr.add, World.cell?_alloc_at]⟩⟩
  have h := lcrash_any (HL5.out.below hb6) (torn := torn) hbl rfl (by omega)
  refine h.mono ?_
  clear h hbl hb6
  rintro e w7 ⟨rfl, hl7⟩
  have HL7 := Lib.hid hl7
  clear hl7
  go_wp2_with fail
  have h := lread_any HL7.out (n := [102]) (by decide)
  rw [t_crash] at h
  refine h.mono ?_
  clear h
  rintro e w8 ⟨v, rfl, hr, -, hl8⟩
  have HBel := Lib.hid hl8.bel
  obtain ⟨n, hn⟩ : ∃ n, n = min (max torn 0).toNat l1 := ⟨_, rfl⟩
  have htk : b.take (max torn 0).toNat = b.take n := by
    rw [hn]
    have := HL1.out
    rcases Nat.le_total (max torn 0).toNat l1 with h | h
    · rw [Nat.min_eq_left h]
    · rw [Nat.min_eq_right h, List.take_of_length_le (by omega), List.take_of_length_le (by omega)]
  rw [htk] at hr
  have hnl : n ≤ b.length := by have := HL1.out; omega
  have hml2 : m ≤ old.length := by have := HL0.out; omega
  have hxl := torn_length' old b m n hml2 hnl
  have hat := torn_at old b m n hml2 hnl
  obtain ⟨X, hX⟩ : ∃ X, X = layT old m (b.take n) := ⟨_, rfl⟩
  rw [← hX] at hr hxl hat
  obtain ⟨va, vc, rfl⟩ := slice_of_row hr
  obtain ⟨L, hL⟩ : ∃ L, L = X.length := ⟨_, rfl⟩
  rw [← hL] at hxl
  have HR := Lib.hid hr.bys
  rw [← hL] at HR ⊢
  have HAt := Lib.hid hat
  have HLx := Lib.hid hL
  have hmin : ∀ (ts : Array TypeId) (ty : TypeId) (W : World), (Builtin.min_ ts ty #[.int .i64 torn, .int .i64 (l1 : Int)]).run Try.prog W = .ok (.int .i64 (min torn (l1 : Int))) W := fun ts ty W => by
    rw [run_min_int2]
    congr 2
    omega
  have hmax : ∀ (ts : Array TypeId) (ty : TypeId) (W : World), (Builtin.max_ ts ty #[.int .i64 0, .int .i64 (min torn (l1 : Int))]).run Try.prog W = .ok (.int .i64 (n : Int)) W := fun ts ty W => by
    have e : (if min torn (l1 : Int) > 0 then min torn (l1 : Int) else 0) = (n : Int) := by omega
    rw [run_max_int2, e]
  have hmax2 : ∀ (ts : Array TypeId) (ty : TypeId) (W : World), (Builtin.max_ ts ty #[.int .i64 (l0 : Int), .int .i64 ((m : Int) + n)]).run Try.prog W = .ok (.int .i64 (L : Int)) W := fun ts ty W => by
    have e : (if (m : Int) + n > (l0 : Int) then (m : Int) + n else (l0 : Int)) = (L : Int) := by have := HL0.out; omega
    rw [run_max_int2, e]
  have hL9 : L ≤ 6000 := by have := HL0.out; omega
  have hLm : L = max l0 (m + n) := by have := HL0.out; omega
  have hn3 : n ≤ l1 := by omega
  have HLm := Lib.hid hLm
  clear hr hl8 hn htk hnl hml2 hxl hat hX hL hLm
  go_wp2
  go_loopw [13] (fun s13 wr => ∃ i q : Nat, i ≤ L ∧ s13 = .int .i64 i ∧ wr = w8.drewN q) (fun s13 _ => L - (intOf s13).toNat)
  case atStart => exact ⟨0, 0, Nat.zero_le _, rfl, rfl⟩
  case round =>
    obtain ⟨i, q, hi, rfl, rfl⟩ := hrel
    clear hmin hmax hmax2
    by_cases hlt : i < L
    · obtain ⟨y, hy⟩ : ∃ y, X[i]? = some y := ⟨X[i]'(by have := HLx.out; omega), List.getElem?_eq_getElem _⟩
      have h1 := HAt.out i y hy
      obtain ⟨ad, rfl, -, hcx⟩ := bys_cell HR.out hy
      have cx : ∀ N, (w8.drewN N).cell? (ad.add i) = some (.int .u8 (y.toNat : Int)) := fun N => hcx
      obtain ⟨k, hk⟩ : ∃ k : Nat, k = y.toNat := ⟨_, rfl⟩
      rw [← hk] at cx
      have i0 : (0 : Int) ≤ (i : Int) := Int.natCast_nonneg _
      have i1 : (i : Int) < (L : Int) := by omega
      by_cases hin : m ≤ i ∧ i < m + n
      · rw [if_pos hin] at h1
        obtain ⟨ad2, rfl, hl2', hcb⟩ := bys_cell (HB.out.below (Nat.le_refl _) HBel.out) h1
        have cb : ∀ N, (w8.drewN N).cell? (ad2.add (i - m)) = some (.int .u8 (k : Int)) := fun N => by rw [hk]; exact hcb
        have b1 : decide ((m : Int) ≤ (i : Int)) = true := by simp; omega
        have b2 : decide ((i : Int) < (m : Int) + (n : Int)) = true := by simp; omega
        have i2 : (0 : Int) ≤ (i : Int) - (m : Int) := by omega
        have i3 : (i : Int) - (m : Int) < (l1 : Int) := by omega
        clear h1 hy hcx hcb hk hl2'
        go_wp2_with fail
        go_quiet (fail)
        go_wp2
        go_roundw
        case rel => exact ⟨i + 1, _, by omega, by go_num, rfl⟩
        case measure => simp [intOf]; omega
      · rw [if_neg hin] at h1
        obtain ⟨ad2, rfl, hl2', hco⟩ := bys_cell (HOld.out.below (Nat.le_refl _) HBel.out) h1
        have co : ∀ N, (w8.drewN N).cell? (ad2.add i) = some (.int .u8 (k : Int)) := fun N => by rw [hk]; exact hco
        have i3 : (i : Int) < (l0 : Int) := by have := HLm.out; omega
        clear h1 hy hcx hco hk hl2'
        by_cases h5 : m ≤ i
        · have b1 : decide ((m : Int) ≤ (i : Int)) = true := by simp; omega
          have b2 : decide ((i : Int) < (m : Int) + (n : Int)) = false := by simp; omega
          go_wp2_with fail
          go_quiet (fail)
          go_wp2
          go_roundw
          case rel => exact ⟨i + 1, _, by omega, by go_num, rfl⟩
          case measure => simp [intOf]; omega
        · have b1 : decide ((m : Int) ≤ (i : Int)) = false := by simp; omega
          go_wp2_with fail
          go_quiet (fail)
          go_wp2
          go_roundw
          case rel => exact ⟨i + 1, _, by omega, by go_num, rfl⟩
          case measure => simp [intOf]; omega
    · obtain rfl : i = L := by omega
      go_wp2
      go_ret
      exact ⟨rfl, below_dn HBel.out _⟩

theorem torn_all (w : World) (a0 : Option Addr) (len0 cap0 : Nat) (zs0 : List Int) (h0 : IsRow .u8 w a0 len0 cap0 zs0) (_ : cap0 * 1 ≤ 140737488351232) (a1 : Option Addr) (len1 cap1 : Nat) (zs1 : List Int) (h1 : IsRow .u8 w a1 len1 cap1 zs1) (_ : cap1 * 1 ≤ 140737488351232) (at_ : Int) (_ : (Lit.int .i64 at_).wf = true) (torn : Int) (_ : (Lit.int .i64 torn).wf = true) :
    Calls Try.prog 5 #[.slice a0 len0 cap0, .slice a1 len1 cap1, .int .i64 at_, .int .i64 torn] w fun e w' => e = .returned (.bool true) ∧ Below w.heap.size w w' := by
  obtain ⟨l0, hl0, hb0⟩ := h0.bys
  obtain ⟨l1, hl1, hb1⟩ := h1.bys
  exact torn_walk a0 len0 cap0 l0 a1 len1 cap1 l1 at_ torn w hb0 hl0 hb1 hl1
end Go.Proofs.Ytabddeoeihlnnaa
