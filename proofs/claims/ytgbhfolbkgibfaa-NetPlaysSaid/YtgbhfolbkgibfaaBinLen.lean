/- math/bits.Len64 answers how many bits a number takes. -/
import Derived.Test.YtgbhfolbkgibfaaRows
import Derived.Tactics2
import Derived.Lib.Strings
import Derived.Lib.Slices
import Derived.Lib.Small
import Derived.Lib.Walk
import Derived.Lib.BitFns
namespace Go.Proofs.Ytgbhfolbkgibfaa
set_option maxRecDepth 20000
open Go.Lib (bitLen len8 len8_of bitLen_le8' bitLen_shift)

/-- The last step of each way: what is left of x behind k bits is less than 256. -/
theorem len_last (x d : Int) (k p : Nat) (hp : 2 ^ k = p) (hd : d = x / p) (h0 : 0 ≤ x) (h1 : x ≤ 18446744073709551615) (hlo : (p : Int) ≤ x ∨ k = 0) (hhi : d < 256) :
    (bitLen x.toNat : Int) = k + len8 d ∧ 0 ≤ len8 d ∧ len8 d ≤ 8 := by
  subst hp
  obtain ⟨n, rfl⟩ : ∃ n : Nat, x = n := ⟨x.toNat, by omega⟩
  rw [← Int.natCast_ediv] at hd
  obtain ⟨q, hq⟩ : ∃ q : Nat, q = n / 2 ^ k := ⟨_, rfl⟩
  rw [← hq] at hd
  subst hd
  rw [len8_of _ (by omega) (by omega)]
  have hb := bitLen_le8' (q : Int) (by omega) (by omega)
  simp only [Int.toNat_natCast] at hb ⊢
  rcases hlo with h | h
  · have := bitLen_shift k n (by omega) (by omega)
    rw [← hq] at this
    omega
  · subst h
    simp at hq
    subst hq
    omega

set_option maxHeartbeats 4000000 in
set_option maxRecDepth 100000 in
theorem len64_any (x : Int) (w : World) (h0 : 0 ≤ x) (h1 : x ≤ 18446744073709551615) :
    Calls Try.prog 90 #[.int .u64 x] w fun e w' => e = .returned (.int .i64 (bitLen x.toNat)) ∧ w' = w := by
  go_enter Try.func90, Try.ntmps90
  go_wp2
  all_goals (go_ret; refine ⟨congrArg Ending.returned (congrArg (Value.int IntKind.i64) ?_), rfl⟩)
  all_goals first
    | (have := len_last x (x / 4294967296 / 65536 / 256 % 256) 56 72057594037927936 (by decide) (by omega) h0 h1 (by omega) (by omega); omega)
    | (have := len_last x (x / 4294967296 / 65536 % 256) 48 281474976710656 (by decide) (by omega) h0 h1 (by omega) (by omega); omega)
    | (have := len_last x (x / 4294967296 / 256 % 256) 40 1099511627776 (by decide) (by omega) h0 h1 (by omega) (by omega); omega)
    | (have := len_last x (x / 4294967296 % 256) 32 4294967296 (by decide) (by omega) h0 h1 (by omega) (by omega); omega)
    | (have := len_last x (x / 65536 / 256 % 256) 24 16777216 (by decide) (by omega) h0 h1 (by omega) (by omega); omega)
    | (have := len_last x (x / 65536 % 256) 16 65536 (by decide) (by omega) h0 h1 (by omega) (by omega); omega)
    | (have := len_last x (x / 256 % 256) 8 256 (by decide) (by omega) h0 h1 (by omega) (by omega); omega)
    | (have := len_last x (x % 256) 0 1 (by decide) (by omega) h0 h1 (by omega) (by omega); omega)

end Go.Proofs.Ytgbhfolbkgibfaa
