/- CrcFar and CrcJoins: the walks. -/
import Derived.Test.YtkndaheonlnclaaDoorCrcTab
namespace Go.Proofs.YtkndaheonlnclaaDoor
open Go.RowKit CrcMath

theorem join_split (a b : BitVec 32) (n : Nat) : join a b n = join a 0#32 n ^^^ b := by simp [join]
theorem join_lin (a c : BitVec 32) (n : Nat) : join (a ^^^ c) 0#32 n = join a 0#32 n ^^^ join c 0#32 n := by simp [join, P_xor]

/-- Join, its answer under a name. -/
theorem join_named (x y r : BitVec 32) (n : Nat) (w : World) (hn : n < 18446744073709551616) (h : Hid (join x y n = r)) :
    Calls Tryd.prog 14 #[.int .u32 (rv x), .int .u32 (rv y), .int .u64 (n : Int)] w fun e w' => e = .returned (.int .u32 (rv r)) ∧ w = w' :=
  (join_any x y n w hn).mono fun e w' ⟨h1, h2⟩ => ⟨by rw [h1, h.out], h2⟩
theorem join_named0 (x r : BitVec 32) (n : Nat) (w : World) (hn : n < 18446744073709551616) (h : Hid (join x 0#32 n = r)) :
    Calls Tryd.prog 14 #[.int .u32 (rv x), .int .u32 0, .int .u64 (n : Int)] w fun e w' => e = .returned (.int .u32 (rv r)) ∧ w = w' :=
  join_named x 0#32 r n w hn h

set_option maxHeartbeats 2000000 in
theorem far_walk (a b c : BitVec 32) (n m : Nat) (w : World) (ht : Tab w) (hn : n < 18446744073709551616) (hm : m < 18446744073709551616) :
    Calls Tryd.prog 6 #[.int .u32 (rv a), .int .u32 (rv b), .int .u32 (rv c), .int .u64 (n : Int), .int .u64 (m : Int)] w fun e w' => e = .returned (.bool true) ∧ Below w.heap.size w w' := by
  have HT := Lib.hid ht
  clear ht
  obtain ⟨s, hs, hsn⟩ : ∃ s : Nat, IntKind.u64.wrap ((n : Int) + m) = (s : Int) ∧ (n ≤ s ∧ s = n + m ∧ s < 18446744073709551616 ∨ s < n) := by
    by_cases h : n + m < 18446744073709551616
    · exact ⟨n + m, by rw [IntWalk.u64_in _ ⟨by omega, by omega⟩]; push_cast; rfl, .inl ⟨by omega, rfl, h⟩⟩
    · exact ⟨n + m - 18446744073709551616, by simp [IntKind.wrap, IntKind.bits, IntKind.signed]; omega, .inr (by omega)⟩
  rcases hsn with ⟨h1, h2, h3⟩ | h1
  · have HS := Lib.hid h2
    obtain ⟨r1, hr1⟩ : ∃ r, join a b n = r := ⟨_, rfl⟩
    obtain ⟨r2, hr2⟩ : ∃ r, join r1 c m = r := ⟨_, rfl⟩
    obtain ⟨r3, hr3⟩ : ∃ r, join b c m = r := ⟨_, rfl⟩
    have hr4 : join a r3 s = r2 := by rw [← hr2, ← hr1, ← hr3, h2, join_join]
    obtain ⟨a0, ha0⟩ : ∃ r, join a 0#32 n = r := ⟨_, rfl⟩
    obtain ⟨c0, hc0⟩ : ∃ r, join c 0#32 n = r := ⟨_, rfl⟩
    have hx1 : bits .xor .u32 (rv a0) (rv b) = rv r1 := by rw [rv_xor, ← ha0, ← hr1, join_split a b n]
    obtain ⟨d, hd⟩ : ∃ d, a ^^^ c = d := ⟨_, rfl⟩
    have hx2 : bits .xor .u32 (rv a) (rv c) = rv d := by rw [rv_xor, hd]
    obtain ⟨e0, he0⟩ : ∃ r, join d 0#32 n = r := ⟨_, rfl⟩
    have hx3 : bits .xor .u32 (rv a0) (rv c0) = rv e0 := by rw [rv_xor, ← he0, ← hd, join_lin, ha0, hc0]
    have H1 := Lib.hid hr1
    have H2 := Lib.hid hr2
    have H3 := Lib.hid hr3
    have H4 := Lib.hid hr4
    have H5 := Lib.hid ha0
    have H6 := Lib.hid hc0
    have H7 := Lib.hid he0
    clear hr1 hr2 hr3 hr4 ha0 hc0 he0 hd h2
    go_enter Tryd.func6, Tryd.ntmps6
    go_wp2_with fail
    refine (awake_any _ HT.out).mono ?_
    rintro e w1 ⟨rfl, hb1⟩
    have B1 := Lib.hid hb1
    clear hb1
    go_wp2_with fail
    refine (join_named a b r1 n _ hn H1).mono ?_
    rintro e w' ⟨rfl, rfl⟩
    go_wp2_with fail
    refine (join_named r1 c r2 m _ hm H2).mono ?_
    rintro e w' ⟨rfl, rfl⟩
    go_wp2_with fail
    refine (join_named b c r3 m _ hm H3).mono ?_
    rintro e w' ⟨rfl, rfl⟩
    go_wp2_with fail
    refine (join_named a r3 r2 s _ h3 H4).mono ?_
    rintro e w' ⟨rfl, rfl⟩
    go_wp2_with fail
    refine (join_named a b r1 n _ hn H1).mono ?_
    rintro e w' ⟨rfl, rfl⟩
    go_wp2_with fail
    refine (join_named0 a a0 n _ hn H5).mono ?_
    rintro e w' ⟨rfl, rfl⟩
    go_wp2_with fail
    refine (join_named0 d e0 n _ hn H7).mono ?_
    rintro e w' ⟨rfl, rfl⟩
    go_wp2_with fail
    refine (join_named0 a a0 n _ hn H5).mono ?_
    rintro e w' ⟨rfl, rfl⟩
    go_wp2_with fail
    refine (join_named0 c c0 n _ hn H6).mono ?_
    rintro e w' ⟨rfl, rfl⟩
    go_wp2
    go_ret
    exact ⟨rfl, B1.out⟩
  · go_enter Tryd.func6, Tryd.ntmps6
    go_wp2_with fail
    refine (awake_any _ HT.out).mono ?_
    rintro e w1 ⟨rfl, hb1⟩
    have B1 := Lib.hid hb1
    clear hb1
    go_wp2
    go_ret
    exact ⟨rfl, B1.out⟩

/-- The walk at what came in. -/
theorem far_all (w : World) (ht : Tab w) (a : Int) (wa : (Lit.int .u32 a).wf = true) (b : Int) (wb : (Lit.int .u32 b).wf = true) (c : Int) (wc : (Lit.int .u32 c).wf = true) (n : Int) (wn : (Lit.int .u64 n).wf = true) (m : Int) (wm : (Lit.int .u64 m).wf = true) :
    Calls Tryd.prog 6 #[.int .u32 a, .int .u32 b, .int .u32 c, .int .u64 n, .int .u64 m] w fun e w' => e = .returned (.bool true) ∧ Below w.heap.size w w' := by
  obtain ⟨x, rfl⟩ := of_u32 a wa
  obtain ⟨y, rfl⟩ := of_u32 b wb
  obtain ⟨z, rfl⟩ := of_u32 c wc
  obtain ⟨k, rfl, hk⟩ := nat_u64 n wn
  obtain ⟨l, rfl, hl⟩ := nat_u64 m wm
  exact far_walk x y z k l w ht hk hl

set_option maxHeartbeats 1000000 in
theorem joins_walk (a b : BitVec 32) (n : Nat) (w : World) (ht : Tab w) (hn : n < 18446744073709551616) :
    Calls Tryd.prog 4 #[.int .u32 (rv a), .int .u32 (rv b), .int .u64 (n : Int)] w fun e w' => e = .returned (.bool true) ∧ Below w.heap.size w w' := by
  have HT := Lib.hid ht
  clear ht
  by_cases hs : 65536 < n
  · go_enter Tryd.func4, Tryd.ntmps4
    go_wp2_with fail
    refine (awake_any _ HT.out).mono ?_
    rintro e w1 ⟨rfl, hb1⟩
    have B1 := Lib.hid hb1
    clear hb1
    go_wp2
    go_ret
    exact ⟨rfl, B1.out⟩
  · go_enter Tryd.func4, Tryd.ntmps4
    go_wp2_with fail
    refine (awake_any _ HT.out).mono ?_
    rintro e w1 ⟨rfl, hb1⟩
    have B1 := Lib.hid hb1
    clear hb1
    go_wp2_with fail
    refine (join_any a b n _ hn).mono ?_
    rintro e w' ⟨rfl, rfl⟩
    go_wp2_with fail
    refine (refjoin_any a b n _ hn).mono ?_
    rintro e w' ⟨rfl, rfl⟩
    go_wp2
    go_ret
    exact ⟨rfl, B1.out⟩

theorem joins_all (w : World) (ht : Tab w) (a : Int) (wa : (Lit.int .u32 a).wf = true) (b : Int) (wb : (Lit.int .u32 b).wf = true) (n : Int) (wn : (Lit.int .u64 n).wf = true) :
    Calls Tryd.prog 4 #[.int .u32 a, .int .u32 b, .int .u64 n] w fun e w' => e = .returned (.bool true) ∧ Below w.heap.size w w' := by
  obtain ⟨x, rfl⟩ := of_u32 a wa
  obtain ⟨y, rfl⟩ := of_u32 b wb
  obtain ⟨k, rfl, hk⟩ := nat_u64 n wn
  exact joins_walk x y k w ht hk

set_option maxHeartbeats 1000000 in
theorem sums_walk (v : Value) (l : List UInt8) (a : BitVec 32) (w : World) (hv : Bys w v l) (hl : l.length ≤ 140737488355328) (ht : Tab w) :
    Calls Tryd.prog 3 #[v, .int .u32 (rv a)] w fun e w' => e = .returned (.bool true) ∧ Below w.heap.size w w' := by
  have HT := Lib.hid ht
  have HV := Lib.hid hv
  clear ht hv
  go_enter Tryd.func3, Tryd.ntmps3
  go_wp2_with fail
  refine (awake_any _ HT.out).mono ?_
  rintro e w1 ⟨rfl, hb1⟩
  have HV1 := Lib.hid (HV.out.below (Nat.le_refl _) hb1)
  have HT1 := Lib.hid (HT.out.below (Nat.le_refl _) hb1)
  have B1 := Lib.hid hb1
  clear hb1
  go_wp2_with fail
  refine (sum_any v l _ HV1.out hl HT1.out).mono ?_
  rintro e w' ⟨rfl, rfl⟩
  go_wp2_with fail
  refine (refsum_any v l _ HV1.out hl).mono ?_
  rintro e w' ⟨rfl, rfl⟩
  go_wp2_with fail
  refine (more_any a v l _ HV1.out hl HT1.out).mono ?_
  rintro e w' ⟨rfl, rfl⟩
  go_wp2_with fail
  refine (refmore_any a v l _ HV1.out hl).mono ?_
  rintro e w' ⟨rfl, rfl⟩
  go_wp2
  go_ret
  exact ⟨rfl, B1.out⟩

theorem sums_all (w : World) (ht : Tab w) (a : Option Addr) (len cap : Nat) (z : List Int) (wz : IsRow .u8 w a len cap z) (sz : cap * 1 ≤ 140737488351232) (b : Int) (wb : (Lit.int .u32 b).wf = true) :
    Calls Tryd.prog 3 #[.slice a len cap, .int .u32 b] w fun e w' => e = .returned (.bool true) ∧ Below w.heap.size w w' := by
  obtain ⟨x, rfl⟩ := of_u32 b wb
  obtain ⟨l, hl, hb⟩ := wz.bys
  have hlc := wz.le
  exact sums_walk _ l x w hb (by omega) ht
end Go.Proofs.YtkndaheonlnclaaDoor
