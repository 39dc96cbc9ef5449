/- Plain facts on the words and blocks of layer 3's hash. No program is named here. -/
import Derived.Laws.BitsAllLaws
namespace Go.Proofs.YtdhfabjkpffhnaaDoor.ShaMath
set_option maxRecDepth 20000

def zx (x : UInt8) : BitVec 32 := BitVec.ofNat 32 x.toNat

def ror (x : BitVec 32) (k : Nat) : BitVec 32 := (x >>> k) ||| (x <<< (32 - k))
def s0 (x : BitVec 32) : BitVec 32 := ror x 7 ^^^ ror x 18 ^^^ (x >>> 3)
def s1 (x : BitVec 32) : BitVec 32 := ror x 17 ^^^ ror x 19 ^^^ (x >>> 10)
def S0 (x : BitVec 32) : BitVec 32 := ror x 2 ^^^ ror x 13 ^^^ ror x 22
def S1 (x : BitVec 32) : BitVec 32 := ror x 6 ^^^ ror x 11 ^^^ ror x 25
def ch (e f g : BitVec 32) : BitVec 32 := (e &&& f) ^^^ (~~~ e &&& g)
def maj (a b c : BitVec 32) : BitVec 32 := (a &&& b) ^^^ (a &&& c) ^^^ (b &&& c)

/-- A cell of a list of words; 0 behind its end. -/
def at0 (L : List (BitVec 32)) (i : Nat) : BitVec 32 := L.getD i 0#32

/-- The words, the first sixteen from the block's bytes: one byte more. -/
def feed (L : List (BitVec 32)) (i : Nat) (c : UInt8) : List (BitVec 32) := L.set (i / 4) ((at0 L (i / 4) <<< 8) ||| zx c)
def zeros64 : List (BitVec 32) := List.replicate 64 0#32
/-- i bytes of b are fed. -/
def fed (b : List UInt8) : Nat → List (BitVec 32)
  | 0 => zeros64
  | i + 1 => feed (fed b i) i (b.getD i 0)

def word (a b c d : UInt8) : BitVec 32 := (zx a <<< 24) ||| (zx b <<< 16) ||| (zx c <<< 8) ||| zx d
/-- t words of b are laid. -/
def laid (b : List UInt8) : Nat → List (BitVec 32)
  | 0 => zeros64
  | t + 1 => (laid b t).set t (word (b.getD (4 * t) 0) (b.getD (4 * t + 1) 0) (b.getD (4 * t + 2) 0) (b.getD (4 * t + 3) 0))

theorem fed_length (b : List UInt8) (i : Nat) : (fed b i).length = 64 := by
  induction i with
  | zero => rfl
  | succ i ih => rw [fed, feed, List.length_set, ih]
theorem laid_length (b : List UInt8) (i : Nat) : (laid b i).length = 64 := by
  induction i with
  | zero => rfl
  | succ i ih => rw [laid, List.length_set, ih]

theorem word_fed (a b c d : UInt8) : ((((((((0#32 <<< 8) ||| zx a) <<< 8) ||| zx b) <<< 8) ||| zx c) <<< 8) ||| zx d) = word a b c d := by
  unfold word
  simp only [BitVec.shiftLeft_or_distrib, ← BitVec.shiftLeft_add, BitVec.zero_shiftLeft, BitVec.zero_or]

theorem at0_set_self (L : List (BitVec 32)) (i : Nat) (v : BitVec 32) (h : i < L.length) : at0 (L.set i v) i = v := by
  unfold at0
  simp [List.getD, h]
theorem at0_set_ne (L : List (BitVec 32)) (i j : Nat) (v : BitVec 32) (h : i ≠ j) : at0 (L.set i v) j = at0 L j := by
  unfold at0
  simp [List.getD, List.getElem?_set_ne h]

theorem laid_zero (b : List UInt8) (t : Nat) : ∀ k, t ≤ k → at0 (laid b t) k = 0#32 := by
  induction t with
  | zero =>
    intro k _
    unfold at0
    rw [laid, zeros64, List.getD, List.getElem?_replicate]
    split <;> rfl
  | succ t ih =>
    intro k hk
    rw [laid, at0_set_ne _ _ _ _ (by omega)]
    exact ih k (by omega)

theorem fed_laid (b : List UInt8) (t : Nat) (ht : t ≤ 16) : fed b (4 * t) = laid b t := by
  induction t with
  | zero => rfl
  | succ t ih =>
    have hl := laid_length b t
    rw [show 4 * (t + 1) = 4 * t + 3 + 1 by omega, fed, show 4 * t + 3 = 4 * t + 2 + 1 by omega, fed, show 4 * t + 2 = 4 * t + 1 + 1 by omega, fed, fed, ih (by omega)]
    unfold feed
    rw [show (4 * t + 1 + 1 + 1) / 4 = t by omega, show (4 * t + 1 + 1) / 4 = t by omega, show (4 * t + 1) / 4 = t by omega, show 4 * t / 4 = t by omega]
    simp only [List.set_set]
    rw [at0_set_self _ _ _ (by simp [hl]; omega), at0_set_self _ _ _ (by simp [hl]; omega), at0_set_self _ _ _ (by rw [hl]; omega), laid_zero b t t (Nat.le_refl _), word_fed]
    rw [laid]

/-- The word at t, from those ahead of it. -/
def nextW (L : List (BitVec 32)) (t : Nat) : BitVec 32 := s1 (at0 L (t - 2)) + at0 L (t - 7) + s0 (at0 L (t - 15)) + at0 L (t - 16)
/-- n words more than sixteen are there. -/
def grown (L : List (BitVec 32)) : Nat → List (BitVec 32)
  | 0 => L
  | n + 1 => (grown L n).set (16 + n) (nextW (grown L n) (16 + n))
theorem grown_length (L : List (BitVec 32)) (n : Nat) : (grown L n).length = L.length := by
  induction n with
  | zero => rfl
  | succ n ih => rw [grown, List.length_set, ih]

/-- The words of a block. -/
def words (b : List UInt8) : List (BitVec 32) := grown (laid b 16) 48
theorem words_length (b : List UInt8) : (words b).length = 64 := by rw [words, grown_length, laid_length]

/-- a to h. -/
structure Regs where
  a : BitVec 32
  b : BitVec 32
  c : BitVec 32
  d : BitVec 32
  e : BitVec 32
  f : BitVec 32
  g : BitVec 32
  h : BitVec 32
  deriving DecidableEq
def Regs.list (r : Regs) : List (BitVec 32) := [r.a, r.b, r.c, r.d, r.e, r.f, r.g, r.h]
def T1 (r : Regs) (k w : BitVec 32) : BitVec 32 := r.h + S1 r.e + ch r.e r.f r.g + k + w
def T2 (r : Regs) : BitVec 32 := S0 r.a + maj r.a r.b r.c
def step (r : Regs) (k w : BitVec 32) : Regs := ⟨T1 r k w + T2 r, r.a, r.b, r.c, r.d + T1 r k w, r.e, r.f, r.g⟩

def K : List (BitVec 32) := [0x428a2f98#32, 0x71374491#32, 0xb5c0fbcf#32, 0xe9b5dba5#32, 0x3956c25b#32, 0x59f111f1#32, 0x923f82a4#32, 0xab1c5ed5#32, 0xd807aa98#32, 0x12835b01#32, 0x243185be#32, 0x550c7dc3#32, 0x72be5d74#32, 0x80deb1fe#32, 0x9bdc06a7#32, 0xc19bf174#32, 0xe49b69c1#32, 0xefbe4786#32, 0x0fc19dc6#32, 0x240ca1cc#32, 0x2de92c6f#32, 0x4a7484aa#32, 0x5cb0a9dc#32, 0x76f988da#32, 0x983e5152#32, 0xa831c66d#32, 0xb00327c8#32, 0xbf597fc7#32, 0xc6e00bf3#32, 0xd5a79147#32, 0x06ca6351#32, 0x14292967#32, 0x27b70a85#32, 0x2e1b2138#32, 0x4d2c6dfc#32, 0x53380d13#32, 0x650a7354#32, 0x766a0abb#32, 0x81c2c92e#32, 0x92722c85#32, 0xa2bfe8a1#32, 0xa81a664b#32, 0xc24b8b70#32, 0xc76c51a3#32, 0xd192e819#32, 0xd6990624#32, 0xf40e3585#32, 0x106aa070#32, 0x19a4c116#32, 0x1e376c08#32, 0x2748774c#32, 0x34b0bcb5#32, 0x391c0cb3#32, 0x4ed8aa4a#32, 0x5b9cca4f#32, 0x682e6ff3#32, 0x748f82ee#32, 0x78a5636f#32, 0x84c87814#32, 0x8cc70208#32, 0x90befffa#32, 0xa4506ceb#32, 0xbef9a3f7#32, 0xc67178f2#32]

def rounds (W : List (BitVec 32)) (r : Regs) : Nat → Regs
  | 0 => r
  | n + 1 => step (rounds W r n) (at0 K n) (at0 W n)

def Regs.add (r s : Regs) : Regs := ⟨r.a + s.a, r.b + s.b, r.c + s.c, r.d + s.d, r.e + s.e, r.f + s.f, r.g + s.g, r.h + s.h⟩
/-- One block worked in. -/
def comp (r : Regs) (b : List UInt8) : Regs := r.add (rounds (words b) r 64)

def start : Regs := ⟨0x6a09e667#32, 0xbb67ae85#32, 0x3c6ef372#32, 0xa54ff53a#32, 0x510e527f#32, 0x9b05688c#32, 0x1f83d9ab#32, 0x5be0cd19#32⟩

/-- n whole blocks of a text worked in. -/
def chain (l : List UInt8) : Nat → Regs
  | 0 => start
  | n + 1 => comp (chain l n) ((l.drop (64 * n)).take 64)

theorem chain_append (l m : List UInt8) (n : Nat) (h : 64 * n ≤ l.length) : chain (l ++ m) n = chain l n := by
  induction n with
  | zero => rfl
  | succ n ih =>
    rw [chain, chain, ih (by omega), List.drop_append_of_le_length (by omega), List.take_append_of_le_length (by rw [List.length_drop]; omega)]

/-- The length's eight bytes; what stands behind a text. -/
def lenB (n : Nat) : List UInt8 := [56, 48, 40, 32, 24, 16, 8, 0].map fun s => UInt8.ofNat (8 * n % 18446744073709551616 / 2 ^ s)
def gap (n : Nat) : Nat := (119 - n % 64) % 64
def tail (n : Nat) : List UInt8 := 128 :: (List.replicate (gap n) 0 ++ lenB n)
theorem tail_length (n : Nat) : (n + (tail n).length) % 64 = 0 := by
  unfold tail gap lenB
  simp
  omega

def pad (l : List UInt8) : List UInt8 := l ++ tail l.length

/-- Four bytes of a word. -/
def quad (x : BitVec 32) : List UInt8 := [UInt8.ofNat (x.toNat / 2 ^ 24), UInt8.ofNat (x.toNat / 2 ^ 16), UInt8.ofNat (x.toNat / 2 ^ 8), UInt8.ofNat x.toNat]
/-- The byte i of words. -/
def byteAt (L : List (BitVec 32)) (i : Nat) : UInt8 := UInt8.ofNat ((at0 L (i / 4)).toNat / 2 ^ (24 - i % 4 * 8))
def bytes (r : Regs) : List UInt8 := (List.range 32).map (byteAt r.list)

def hash (l : List UInt8) : List UInt8 := bytes (chain (pad l) ((pad l).length / 64))

theorem bytes_length (r : Regs) : (bytes r).length = 32 := by simp [bytes]
theorem hash_length (l : List UInt8) : (hash l).length = 32 := bytes_length _

theorem abc : (hash [97, 98, 99])[0]? = some 186 ∧ (hash [97, 98, 99])[1]? = some 120 ∧ (hash [97, 98, 99])[31]? = some 173 := by decide +kernel

end Go.Proofs.YtdhfabjkpffhnaaDoor.ShaMath
