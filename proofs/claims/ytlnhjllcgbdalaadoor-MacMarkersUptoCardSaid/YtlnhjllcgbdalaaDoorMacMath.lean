/- Plain facts on marks. No program is named here. -/
import Derived.Test.YtlnhjllcgbdalaaDoorShaGood
namespace Go.Proofs.YtlnhjllcgbdalaaDoor.MacMath
open ShaMath

/-- What counts as the key. -/
def keyL (key : List UInt8) : List UInt8 := if 64 < key.length then ShaMath.hash key else key
theorem keyL_length (key : List UInt8) : (keyL key).length ≤ 64 := by
  unfold keyL
  split
  · rw [hash_length]; decide
  · omega
/-- The key's 64 bytes. -/
def kb (key : List UInt8) : List UInt8 := keyL key ++ List.replicate (64 - (keyL key).length) 0
theorem kb_length (key : List UInt8) : (kb key).length = 64 := by
  have := keyL_length key
  simp [kb]
  omega
def xr (k : List UInt8) (x : UInt8) : List UInt8 := k.map (· ^^^ x)
theorem xr_length (k : List UInt8) (x : UInt8) : (xr k x).length = k.length := by simp [xr]
/-- The mark, by the key's 64 bytes. -/
def mark0 (k text : List UInt8) : List UInt8 := ShaMath.hash (xr k 0x5c ++ ShaMath.hash (xr k 0x36 ++ text))
def hmac (key text : List UInt8) : List UInt8 := mark0 (kb key) text
theorem hmac_length (key text : List UInt8) : (hmac key text).length = 32 := hash_length _
theorem mark0_length (key text : List UInt8) : (mark0 key text).length = 32 := hash_length _

/-- The inner hash under way: nothing as long as nothing was written. -/
def inner (k text : List UInt8) : List UInt8 := if text = [] then [] else xr k 0x36 ++ text
theorem inner_nil (k : List UInt8) : inner k [] = [] := rfl
theorem inner_ne (k : List UInt8) {text : List UInt8} (h : text ≠ []) : inner k text = xr k 0x36 ++ text := by rw [inner, if_neg h]

/-- i of the key's bytes are turned. -/
def turned (k : List UInt8) (x : UInt8) (i : Nat) : List UInt8 := (k.take i).map (· ^^^ x) ++ k.drop i
theorem turned_zero (k : List UInt8) (x : UInt8) : turned k x 0 = k := by simp [turned]
theorem turned_length (k : List UInt8) (x : UInt8) (i : Nat) : (turned k x i).length = k.length := by
  simp [turned]
  omega
theorem turned_all (k : List UInt8) (x : UInt8) (i : Nat) (h : k.length ≤ i) : turned k x i = xr k x := by
  rw [turned, List.take_of_length_le h, List.drop_of_length_le h, List.append_nil, xr]
theorem turned_at (k : List UInt8) (x : UInt8) (i : Nat) (h : i < k.length) : (turned k x i).getD i 0 = k.getD i 0 := by
  unfold turned List.getD
  rw [List.getElem?_append_right (by simp; omega)]
  simp [show min i k.length = i by omega]
theorem turned_step (k : List UInt8) (x : UInt8) (i : Nat) (h : i < k.length) : (turned k x i).set i (k.getD i 0 ^^^ x) = turned k x (i + 1) := by
  have hm : ((k.take i).map (· ^^^ x)).length = i := by simp; omega
  have e : (k.drop i).set 0 (k.getD i 0 ^^^ x) = (k.getD i 0 ^^^ x) :: k.drop (i + 1) := by
    rw [List.drop_eq_getElem_cons h]
    rfl
  unfold turned
  rw [List.set_append_right _ _ (by omega), hm, Nat.sub_self, e, List.take_succ_eq_append_getElem h, List.map_append, List.append_assoc]
  simp [List.getD, h]

/-- The key's bytes with zeros behind, as copied. -/
def zero64 : List UInt8 := List.replicate 64 0
theorem kb_put (key : List UInt8) : put zero64 0 (keyL key) = kb key := by
  have := keyL_length key
  have e : zero64.drop (0 + (keyL key).length) = List.replicate (64 - (keyL key).length) 0 := by rw [Nat.zero_add, zero64, List.drop_replicate]
  rw [put, e, kb, List.take_zero, List.nil_append]
theorem kb_short {key : List UInt8} (h : key.length ≤ 64) : kb key = key ++ List.replicate (64 - key.length) 0 := by
  rw [kb, keyL, if_neg (by omega)]
theorem kb_nil : kb [] = zero64 := rfl
/-- Zeros behind a key. -/
theorem kb_zeros (key : List UInt8) (n : Nat) (h : key.length + n ≤ 64) : kb (key ++ List.replicate n 0) = kb key := by
  rw [kb_short (by simp; omega), kb_short (by omega), List.append_assoc, List.replicate_append_replicate]
  congr 2
  simp
  omega
/-- A long key counts as its hash. -/
theorem kb_keyL (key : List UInt8) : kb (keyL key) = kb key := by
  have h := keyL_length key
  rw [kb_short h]
  rfl
theorem kb_at (key : List UInt8) (i : Nat) (hk : key.length ≤ 64) : (kb key).getD i 0 = if i < key.length then key.getD i 0 else 0 := by
  rw [kb_short hk]
  unfold List.getD
  split
  · rw [List.getElem?_append_left (by assumption)]
  · rw [List.getElem?_append_right (by omega), List.getElem?_replicate]
    split <;> rfl
end Go.Proofs.YtlnhjllcgbdalaaDoor.MacMath
