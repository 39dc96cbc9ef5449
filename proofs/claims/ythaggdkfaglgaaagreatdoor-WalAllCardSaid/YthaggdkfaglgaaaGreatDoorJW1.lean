/- Joined: WalMath, WalLib, WalStep, WalOpenMath, WalKit, WalAttempt, FrameLay. -/
import Derived.Test.YthaggdkfaglgaaaGreatDoorJD1
import Derived.Test.YthaggdkfaglgaaaGreatDoorJF1
import Derived.Lib.ItoaNum
import Derived.Shelf.Pu.ParseUintPublic10
import Derived.Shelf.Small.Wraps
import Derived.Shelf.Strings.Prefix
import Derived.Lib.ItoaWalk
import Derived.Lib.Strings
import Derived.Test.YthaggdkfaglgaaaGreatDoorJD4
import Derived.Test.YthaggdkfaglgaaaGreatDoorJA2
import Derived.Test.YthaggdkfaglgaaaGreatDoorJF2
/- Layer 9 as plain functions: the files of a log, what may lie of it behind a crash. No program is named here. -/
namespace Go.Proofs.YthaggdkfaglgaaaGreatDoor.WalMath
set_option maxRecDepth 20000
open Go DiskMath FrameMath

/-- A log's name. -/
def wn (q : Nm) : Prop := 1 ≤ q.length ∧ q.length ≤ 4 ∧ ∀ c ∈ q, 97 ≤ c.toNat ∧ c.toNat ≤ 122

abbrev dec (n : Nat) : Nm := Lib.decDigits n
def recN (q : Nm) (n : Nat) : Nm := q ++ [46] ++ dec n
def markN (q : Nm) (n : Nat) : Nm := q ++ [46, 102] ++ dec n

def dec2 (n : Nat) : Nm := if n < 10 then [UInt8.ofNat (48 + n)] else [UInt8.ofNat (48 + n / 10), UInt8.ofNat (48 + n % 10)]
theorem dec_two {n : Nat} (h : n < 100) : dec n = dec2 n := by
  unfold dec2
  by_cases h1 : n < 10
  · rw [if_pos h1]; exact Lib.decDigits_one h1
  · rw [if_neg h1]; exact Lib.decDigits_two h1 h

def undec (l : Nm) : Nat := l.foldl (fun a c => a * 10 + (c.toNat - 48)) 0
theorem undec_two : ∀ n < 100, undec (dec2 n) = n := by decide
theorem dec2_ok : ∀ n < 100, (dec2 n).all (fun c => 48 ≤ c.toNat && c.toNat ≤ 57) = true ∧ 1 ≤ (dec2 n).length ∧ (dec2 n).length ≤ 2 := by decide

theorem dec_inj {n m : Nat} (hn : n < 100) (hm : m < 100) (h : dec n = dec m) : n = m := by
  rw [dec_two hn, dec_two hm] at h
  rw [← undec_two n hn, ← undec_two m hm, h]

theorem dec_mem {n : Nat} (hn : n < 100) {c : UInt8} (h : c ∈ dec n) : 48 ≤ c.toNat ∧ c.toNat ≤ 57 := by
  rw [dec_two hn] at h
  have := List.all_eq_true.1 (dec2_ok n hn).1 c h
  simpa using this

theorem dec_len {n : Nat} (hn : n < 100) : 1 ≤ (dec n).length ∧ (dec n).length ≤ 2 := by
  rw [dec_two hn]
  exact (dec2_ok n hn).2

section
variable {q : Nm} {n m : Nat}

theorem rec_inj (hn : n < 100) (hm : m < 100) (h : recN q n = recN q m) : n = m := dec_inj hn hm (List.append_cancel_left h)
theorem mark_inj (hn : n < 100) (hm : m < 100) (h : markN q n = markN q m) : n = m := dec_inj hn hm (List.append_cancel_left h)
theorem rec_mark (hn : n < 100) (h : recN q n = markN q m) : False := by
  unfold recN markN at h
  rw [List.append_assoc, List.append_assoc] at h
  have h1 := List.append_cancel_left h
  simp only [List.cons_append, List.nil_append, List.cons.injEq, true_and] at h1
  have h2 := dec_mem hn (c := 102) (by rw [h1]; simp)
  have : (102 : UInt8).toNat = 102 := rfl
  omega
theorem rec_ne (hn : n < 100) (hm : m < 100) (h : n ≠ m) : recN q n ≠ recN q m := fun e => h (rec_inj hn hm e)
theorem mark_ne (hn : n < 100) (hm : m < 100) (h : n ≠ m) : markN q n ≠ markN q m := fun e => h (mark_inj hn hm e)
theorem recmark_ne (hn : n < 100) : recN q n ≠ markN q m := fun e => rec_mark hn e
theorem markrec_ne (hn : n < 100) : markN q m ≠ recN q n := fun e => rec_mark hn e.symm

theorem okC_dec (hn : n < 100) : (dec n).all okC = true := by
  rw [List.all_eq_true]
  intro c hc
  have h := dec_mem hn hc
  unfold okC
  simp [h.1, h.2]

theorem okC_name (hq : wn q) : q.all okC = true := by
  rw [List.all_eq_true]
  intro c hc
  have h := hq.2.2 c hc
  unfold okC
  simp [h.1, h.2]

theorem rec_len (hq : wn q) (hn : n < 100) : 1 ≤ (recN q n).length ∧ (recN q n).length ≤ 16 := by
  have h1 := dec_len hn
  have h2 := hq.2.1
  simp only [recN, List.length_append, List.length_cons, List.length_nil]
  omega
theorem mark_len (hq : wn q) (hn : n < 100) : 1 ≤ (markN q n).length ∧ (markN q n).length ≤ 16 := by
  have h1 := dec_len hn
  have h2 := hq.2.1
  simp only [markN, List.length_append, List.length_cons, List.length_nil]
  omega

theorem rec_named (hq : wn q) (hn : n < 100) : named (recN q n) = true := by
  have h := rec_len hq hn
  unfold named
  simp only [h.1, h.2, decide_true, Bool.true_and]
  unfold recN
  rw [List.all_append, List.all_append, okC_name hq, okC_dec hn]
  rfl
theorem mark_named (hq : wn q) (hn : n < 100) : named (markN q n) = true := by
  have h := mark_len hq hn
  unfold named
  simp only [h.1, h.2, decide_true, Bool.true_and]
  unfold markN
  rw [List.all_append, List.all_append, okC_name hq, okC_dec hn]
  rfl
end

/-- What may lie of a log: f its first number, R its records, of which lo lie there for sure. -/
structure May (q : Nm) (F : Fs) (f : Nat) (R : List (List UInt8)) (lo : Nat) : Prop where
  rise : Rise F
  own : ∀ p ∈ F, ∃ n, n < 100 ∧ (p.1 = recN q n ∨ p.1 = markN q n)
  mark : ∀ n, n < 100 → ((getA (markN q n) F).isSome = true ↔ (n = f ∧ 0 < f))
  has : ∀ i t, R[i]? = some t → i < lo → getA (recN q (f + i)) F = some (frameF t)
  part : ∀ i t u, R[i]? = some t → getA (recN q (f + i)) F = some u → ∃ k, u = (frameF t).take k
  free : ∀ n, f + R.length ≤ n → n < 100 → getA (recN q n) F = none
  lo : lo ≤ R.length
  lim : f + R.length ≤ 99
  long : ∀ t ∈ R, t.length ≤ 16384

theorem May.less {q : Nm} {F : Fs} {f : Nat} {R : List (List UInt8)} {lo lo' : Nat} (h : May q F f R lo) (hl : lo' ≤ lo) : May q F f R lo' :=
  { h with has := fun i t hi hlt => h.has i t hi (by omega), lo := Nat.le_trans hl h.lo }

/-- A record more, that lies nowhere yet. -/
theorem May.more {q : Nm} {F : Fs} {f : Nat} {R : List (List UInt8)} {lo : Nat} (h : May q F f R lo) (r : List UInt8) (hr : r.length ≤ 16384) (hl : f + R.length ≤ 98) : May q F f (R ++ [r]) lo where
  rise := h.rise
  own := h.own
  mark := h.mark
  has i t hi hlt := h.has i t (by rw [List.getElem?_append_left (by have := h.lo; omega)] at hi; exact hi) hlt
  part i t u hi hu := by
    by_cases hlt : i < R.length
    · exact h.part i t u (by rw [List.getElem?_append_left hlt] at hi; exact hi) hu
    · exfalso
      have h1 := (List.getElem?_eq_some_iff.1 hi).1
      simp only [List.length_append, List.length_cons, List.length_nil] at h1
      rw [h.free (f + i) (by omega) (by omega)] at hu
      cases hu
  free n h1 h2 := h.free n (by simp only [List.length_append, List.length_cons, List.length_nil] at h1; omega) h2
  lo := by have := h.lo; simp; omega
  lim := by simp only [List.length_append, List.length_cons, List.length_nil]; omega
  long t ht := by
    rcases List.mem_append.1 ht with h1 | h1
    · exact h.long t h1
    · rw [List.mem_singleton.1 h1]; exact hr

/-- What is told of the files by their names' texts alone. -/
theorem May.to {q : Nm} {F F' : Fs} {f : Nat} {R : List (List UInt8)} {lo : Nat} (h : May q F f R lo) (hr : Rise F') (ho : ∀ p ∈ F', ∃ n, n < 100 ∧ (p.1 = recN q n ∨ p.1 = markN q n))
    (hm : ∀ n, n < 100 → ((getA (markN q n) F').isSome = (getA (markN q n) F).isSome)) (hg : ∀ n, f ≤ n → n < 100 → (getA (recN q n) F' = getA (recN q n) F) ∨ (f + lo ≤ n ∧ getA (recN q n) F' = none)) : May q F' f R lo where
  rise := hr
  own := ho
  mark n hn := by rw [hm n hn]; exact h.mark n hn
  has i t hi hlt := by
    have h1 := (List.getElem?_eq_some_iff.1 hi).1
    have h2 := h.lim
    rcases hg (f + i) (by omega) (by omega) with h3 | h3
    · rw [h3]; exact h.has i t hi hlt
    · omega
  part i t u hi hu := by
    have h1 := (List.getElem?_eq_some_iff.1 hi).1
    have h2 := h.lim
    rcases hg (f + i) (by omega) (by omega) with h3 | h3
    · exact h.part i t u hi (by rw [← h3]; exact hu)
    · rw [h3.2] at hu; cases hu
  free n h1 h2 := by
    rcases hg n (by omega) h2 with h3 | h3
    · rw [h3]; exact h.free n h1 h2
    · exact h3.2
  lo := h.lo
  lim := h.lim
  long := h.long

theorem layT_zero (t b : List UInt8) : layT t 0 b = b ++ t.drop b.length := by
  unfold layT
  by_cases h : b = []
  · subst h; simp
  · rw [if_neg h]; simp

theorem take_over (l : List UInt8) (k k' : Nat) : l.take k ++ (l.take k').drop (l.take k).length = l.take (max k k') := by
  apply List.ext_getElem?
  intro i
  by_cases hi : i < (l.take k).length
  · rw [List.getElem?_append_left hi]
    rw [List.length_take] at hi
    rw [List.getElem?_take_of_lt (by omega), List.getElem?_take_of_lt (by omega)]
  · rw [List.getElem?_append_right (by omega), List.getElem?_drop]
    rw [show (l.take k).length + (i - (l.take k).length) = i by omega]
    rw [List.length_take] at hi
    by_cases h1 : i < k'
    · rw [List.getElem?_take_of_lt h1, List.getElem?_take_of_lt (by omega)]
    · rw [List.getElem?_eq_none (by rw [List.length_take]; omega), List.getElem?_eq_none (by rw [List.length_take]; omega)]

/-- Operations that leave what may lie of a log. -/
inductive Okop (q : Nm) (f : Nat) (R : List (List UInt8)) (m : Nat) : AOp → Prop
  | gone (n : Nat) (h : n < 100) (h1 : n < f ∨ f + m ≤ n) : Okop q f R m ⟨2, recN q n, [], 0, []⟩
  | laid (n : Nat) (t : List UInt8) (h : n < f) : Okop q f R m ⟨0, recN q n, [], 0, t⟩
  | put (i : Nat) (t : List UInt8) (h : m ≤ i) (h1 : R[i]? = some t) : Okop q f R m ⟨0, recN q (f + i), [], 0, frameF t⟩

theorem own_put {q : Nm} {F : Fs} {n : Nat} {t : List UInt8} {x : Nm} (h : ∀ p ∈ F, ∃ n, n < 100 ∧ (p.1 = recN q n ∨ p.1 = markN q n)) (hn : n < 100) (hx : x = recN q n ∨ x = markN q n) : ∀ p ∈ putA x t F, ∃ n, n < 100 ∧ (p.1 = recN q n ∨ p.1 = markN q n) := fun p hp => by
  rcases mem_put.1 hp with rfl | ⟨h1, _⟩
  · exact ⟨n, hn, hx⟩
  · exact h p h1

theorem doA_write {F : Fs} {n : Nm} {b : List UInt8} : doA ⟨0, n, [], 0, b⟩ F = putA n (b ++ ((getA n F).getD []).drop b.length) F := by
  unfold doA
  rw [if_pos rfl, layT_zero]

theorem doA_gone {F : Fs} {n : Nm} : doA ⟨2, n, [], 0, []⟩ F = delA n F := by
  cases h : getA n F with
  | none => simp only [doA, h]; rw [del_none h]; simp
  | some t => exact doA_remove h

theorem Okop.keeps {q : Nm} {F : Fs} {f : Nat} {R : List (List UInt8)} {m : Nat} {o : AOp} (ho : Okop q f R m o) (h : May q F f R m) (k : Nat) : May q (doA { o with b := o.b.take k } F) f R m := by
  have hlim := h.lim
  cases ho with
  | gone n hn h1 =>
    simp only [List.take_nil]
    rw [doA_gone]
    refine h.to (rise_del h.rise) (fun p hp => h.own p (mem_del.1 hp).1) (fun j hj => by rw [getA_del_other h.rise (markrec_ne hn)]) fun j hj hj2 => ?_
    by_cases e : j = n
    · subst e
      exact .inr ⟨by omega, getA_del_same⟩
    · exact .inl (getA_del_other h.rise (rec_ne hj2 hn e))
  | laid n t hn =>
    simp only
    rw [doA_write]
    refine h.to (rise_put h.rise) (own_put h.own (by omega) (.inl rfl)) (fun j hj => by rw [getA_put_other h.rise (markrec_ne (by omega))]) fun j hj hj2 => ?_
    exact .inl (getA_put_other h.rise (rec_ne hj2 (by omega) (by omega)))
  | put i t hi h1 =>
    have hl := (List.getElem?_eq_some_iff.1 h1).1
    simp only
    rw [doA_write]
    have hne : ∀ j, j < 100 → j ≠ f + i → recN q j ≠ recN q (f + i) := fun j hj e => rec_ne hj (by omega) e
    refine ⟨rise_put h.rise, own_put h.own (n := f + i) (by omega) (.inl rfl), fun j hj => by rw [getA_put_other h.rise (markrec_ne (by omega))]; exact h.mark j hj, fun j u hj hjm => ?_, fun j u v hj hv => ?_, fun j h2 h3 => ?_, h.lo, h.lim, h.long⟩
    · rw [getA_put_other h.rise (hne (f + j) (by omega) (by omega))]
      exact h.has j u hj hjm
    · by_cases e : j = i
      · subst e
        rw [h1] at hj
        cases hj
        rw [getA_put_same h.rise] at hv
        cases hg : getA (recN q (f + j)) F with
        | none =>
          rw [hg] at hv
          simp only [Option.getD_none, List.drop_nil, List.append_nil, Option.some.injEq] at hv
          exact ⟨k, hv.symm⟩
        | some w =>
          rw [hg] at hv
          obtain ⟨k', rfl⟩ := h.part j t w h1 hg
          simp only [Option.getD_some, Option.some.injEq] at hv
          exact ⟨max k k', by rw [← hv, take_over]⟩
      · have hl2 := (List.getElem?_eq_some_iff.1 hj).1
        rw [getA_put_other h.rise (hne (f + j) (by omega) (by omega))] at hv
        exact h.part j u v hj hv
    · rw [getA_put_other h.rise (hne j h3 (by omega))]
      exact h.free j h2 h3

/-- A mark that is none is taken away. -/
theorem stale_keeps {q : Nm} {F : Fs} {f : Nat} {R : List (List UInt8)} {m n : Nat} (h : May q F f R m) (hn : n < 100) (h1 : ¬ (n = f ∧ 0 < f)) : May q (delA (markN q n) F) f R m := by
  refine h.to (rise_del h.rise) (fun p hp => h.own p (mem_del.1 hp).1) (fun j hj => ?_) fun j hj hj2 => .inl (getA_del_other h.rise (recmark_ne hj2))
  by_cases e : j = n
  · subst e
    rw [getA_del_same]
    have := mt (h.mark j hj).1 h1
    cases hg : getA (markN q j) F with
    | none => rfl
    | some t => rw [hg] at this; exact absurd rfl this
  · rw [getA_del_other h.rise (mark_ne hj hn e)]

theorem take_all_b (o : AOp) : ({ o with b := o.b.take o.b.length } : AOp) = o := by simp

/-- What a crash keeps of operations that leave P leaves P. -/
theorem kept_mem {o : AOp} : ∀ {os : List AOp} {ks : List Bool}, o ∈ keptA os ks → o ∈ os
  | [], _, h => by simp [keptA] at h
  | _ :: _, [], h => by simp [keptA] at h
  | a :: os, true :: ks, h => by
    simp only [keptA, if_true, List.mem_cons] at h
    rcases h with rfl | h
    · simp
    · exact List.mem_cons_of_mem _ (kept_mem h)
  | a :: os, false :: ks, h => by
    simp only [keptA] at h
    exact List.mem_cons_of_mem _ (kept_mem h)

theorem torn_keeps (P : Fs → Prop) (torn : Int) : ∀ (os : List AOp), (∀ o ∈ os, ∀ F k, P F → P (doA { o with b := o.b.take k } F)) → ∀ F, P F → P (doAllA (tornA torn os) F)
  | [], _, F, h => h
  | [o], ho, F, h => ho o (by simp) F _ h
  | o :: o' :: os, ho, F, h => by
    have h1 := ho o (by simp) F o.b.length h
    rw [take_all_b] at h1
    exact torn_keeps P torn (o' :: os) (fun o2 h2 => ho o2 (List.mem_cons_of_mem _ h2)) _ h1

theorem crash_keeps (P : Fs → Prop) (s : St) (ho : ∀ o ∈ s.ops, ∀ F k, P F → P (doA { o with b := o.b.take k } F)) (h : P s.sure) (keep : List Bool) (torn : Int) : P (s.crash keep torn).now :=
  torn_keeps P torn _ (fun o h1 => ho o (kept_mem h1)) _ h

/-- A log that is open, between calls: m of its records are sure. -/
structure Rest (q : Nm) (s : St) (f : Nat) (R : List (List UInt8)) (m : Nat) : Prop where
  off : s.off = false
  sure : May q s.sure f R m
  ops : ∀ o ∈ s.ops, Okop q f R m o
  now : May q s.now f R R.length

theorem Rest.crash {q : Nm} {s : St} {f : Nat} {R : List (List UInt8)} {m : Nat} (h : Rest q s f R m) (keep : List Bool) (torn : Int) : May q (s.crash keep torn).now f R m :=
  crash_keeps (fun F => May q F f R m) s (fun o ho _ k hF => (h.ops o ho).keeps hF k) h.sure keep torn

/-- How many files there may be. -/
theorem nodup_sub : ∀ (l L : List Nm), l.Nodup → (∀ x ∈ l, x ∈ L) → l.length ≤ L.length
  | [], _, _, _ => Nat.zero_le _
  | a :: l, L, hn, hs => by
    obtain ⟨h1, h2⟩ := List.nodup_cons.1 hn
    have h3 := nodup_sub l (L.erase a) h2 fun x hx => (List.mem_erase_of_ne (fun e => h1 (by rw [← e]; exact hx))).2 (hs x (List.mem_cons_of_mem _ hx))
    have h4 := List.length_erase_of_mem (hs a (by simp))
    have h5 := List.length_pos_of_mem (hs a (by simp))
    simp only [List.length_cons]
    omega

theorem rise_nodup {F : Fs} (h : Rise F) : (F.map (·.1)).Nodup := by
  unfold List.Nodup
  rw [List.pairwise_map]
  exact List.Pairwise.imp (fun h => before_ne h) h

theorem own_few {q : Nm} {F : Fs} (hr : Rise F) (h : ∀ p ∈ F, ∃ n, n < 100 ∧ (p.1 = recN q n ∨ p.1 = markN q n)) : F.length ≤ 200 := by
  have h1 := nodup_sub (F.map (·.1)) ((List.range 100).map (recN q) ++ (List.range 100).map (markN q)) (rise_nodup hr) fun x hx => by
    obtain ⟨p, hp, rfl⟩ := List.mem_map.1 hx
    obtain ⟨n, hn, h | h⟩ := h p hp
    · exact List.mem_append_left _ (List.mem_map.2 ⟨n, List.mem_range.2 hn, h.symm⟩)
    · exact List.mem_append_right _ (List.mem_map.2 ⟨n, List.mem_range.2 hn, h.symm⟩)
  simpa using h1

theorem May.few {q : Nm} {F : Fs} {f : Nat} {R : List (List UInt8)} {lo : Nat} (h : May q F f R lo) : F.length ≤ 200 := own_few h.rise h.own

end Go.Proofs.YthaggdkfaglgaaaGreatDoor.WalMath

/- What the library's functions on strings and numerals answer: its contracts at this program (laid with its own tools, in plain words). The numbers are this program's. -/
namespace Go.Proofs.YthaggdkfaglgaaaGreatDoor
set_option maxRecDepth 20000
open Go.RowKit Go.Shelf DiskMath WalMath

def Lay.parse_ren : Go.Shelf.Ren := ⟨fun | 14 => 179 | 16 => 205 | 17 => 206 | 19 => 218 | 20 => 219 | 21 => 220 | 22 => 221 | 23 => 222 | 24 => 223 | 25 => 238 | 27 => 240 | 26 => 239 | 28 => 249 | 29 => 251 | 30 => 208 | 31 => 209 | 32 => 210 | 33 => 211 | 35 => 173 | 34 => 224 | 36 => 225 | 37 => 226 | 38 => 227 | 39 => 241 | 40 => 242 | n => n, fun | 9 => 9 | 3 => 3 | 22 => 32 | 24 => 225 | 25 => 226 | 4 => 4 | 34 => 255 | 5 => 5 | 36 => 42 | 37 => 27 | 0 => 0 | 39 => 257 | 21 => 21 | 44 => 277 | 47 => 284 | 50 => 287 | 48 => 285 | 2 => 2 | 52 => 247 | 55 => 249 | 59 => 263 | 60 => 229 | 20 => 20 | 61 => 264 | 65 => 288 | 66 => 289 | 67 => 153 | n => n, fun | 0 => 2 | 1 => 3 | 2 => 1 | 3 => 4 | 4 => 5 | n => n⟩
theorem Lay.parse : Go.Proofs.LaysPu.n14 Tryz.prog Lay.parse_ren := {
  mixed := by kernel_rfl
  f14 := Tryz.func179.trans (congrArg some (by kernel_rfl))
  f16 := Tryz.func205.trans (congrArg some (by kernel_rfl))
  f17 := Tryz.func206.trans (congrArg some (by kernel_rfl))
  f19 := Tryz.func218.trans (congrArg some (by kernel_rfl))
  f20 := Tryz.func219.trans (congrArg some (by kernel_rfl))
  f21 := Tryz.func220.trans (congrArg some (by kernel_rfl))
  f22 := Tryz.func221.trans (congrArg some (by kernel_rfl))
  f23 := Tryz.func222.trans (congrArg some (by kernel_rfl))
  f24 := Tryz.func223.trans (congrArg some (by kernel_rfl))
  f25 := Tryz.func238.trans (congrArg some (by kernel_rfl))
  f26 := Tryz.func239.trans (congrArg some (by kernel_rfl))
  f27 := Tryz.func240.trans (congrArg some (by kernel_rfl))
  f28 := Tryz.func249.trans (congrArg some (by kernel_rfl))
  f29 := Tryz.func251.trans (congrArg some (by kernel_rfl))
  f30 := Tryz.func208.trans (congrArg some (by kernel_rfl))
  f31 := Tryz.func209.trans (congrArg some (by kernel_rfl))
  f32 := Tryz.func210.trans (congrArg some (by kernel_rfl))
  f33 := Tryz.func211.trans (congrArg some (by kernel_rfl))
  f34 := Tryz.func224.trans (congrArg some (by kernel_rfl))
  f35 := Tryz.func173.trans (congrArg some (by kernel_rfl))
  f36 := Tryz.func225.trans (congrArg some (by kernel_rfl))
  f37 := Tryz.func226.trans (congrArg some (by kernel_rfl))
  f38 := Tryz.func227.trans (congrArg some (by kernel_rfl))
  f39 := Tryz.func241.trans (congrArg some (by kernel_rfl))
  f40 := Tryz.func242.trans (congrArg some (by kernel_rfl))
  t0 := Tryz.underlying0
  a0 := Tryz.isAgg0
  z0 := Tryz.sizeOf0
  v0 := Tryz.zeroValue0
  i0 := by kernel_rfl
  t2 := Tryz.underlying2
  a2 := Tryz.isAgg2
  z2 := Tryz.sizeOf2
  v2 := Tryz.zeroValue2
  i2 := by kernel_rfl
  t3 := Tryz.underlying3
  a3 := Tryz.isAgg3
  z3 := Tryz.sizeOf3
  v3 := Tryz.zeroValue3
  i3 := by kernel_rfl
  t4 := Tryz.underlying4
  a4 := Tryz.isAgg4
  z4 := Tryz.sizeOf4
  v4 := Tryz.zeroValue4
  i4 := by kernel_rfl
  t5 := Tryz.underlying5
  a5 := Tryz.isAgg5
  z5 := Tryz.sizeOf5
  v5 := Tryz.zeroValue5
  i5 := by kernel_rfl
  t9 := Tryz.underlying9
  a9 := Tryz.isAgg9
  z9 := Tryz.sizeOf9
  v9 := Tryz.zeroValue9
  i9 := by kernel_rfl
  t20 := Tryz.underlying20
  a20 := Tryz.isAgg20
  z20 := Tryz.sizeOf20
  v20 := Tryz.zeroValue20
  i20 := by kernel_rfl
  t21 := Tryz.underlying21
  a21 := Tryz.isAgg21
  z21 := Tryz.sizeOf21
  v21 := Tryz.zeroValue21
  i21 := by kernel_rfl
  t22 := Tryz.underlying32
  a22 := Tryz.isAgg32
  z22 := Tryz.sizeOf32
  v22 := Tryz.zeroValue32
  i22 := by kernel_rfl
  t24 := Tryz.underlying225
  a24 := Tryz.isAgg225
  z24 := Tryz.sizeOf225
  v24 := Tryz.zeroValue225
  i24 := by kernel_rfl
  t25 := Tryz.underlying226
  a25 := Tryz.isAgg226
  z25 := Tryz.sizeOf226
  v25 := Tryz.zeroValue226
  i25 := by kernel_rfl
  t34 := Tryz.underlying255
  a34 := Tryz.isAgg255
  z34 := Tryz.sizeOf255
  v34 := Tryz.zeroValue255
  i34 := by kernel_rfl
  c34 := by kernel_rfl
  t36 := Tryz.underlying42
  a36 := Tryz.isAgg42
  z36 := Tryz.sizeOf42
  v36 := Tryz.zeroValue42
  i36 := by kernel_rfl
  t37 := Tryz.underlying27
  a37 := Tryz.isAgg27
  z37 := Tryz.sizeOf27
  v37 := Tryz.zeroValue27
  i37 := by kernel_rfl
  t39 := Tryz.underlying257
  a39 := Tryz.isAgg257
  z39 := Tryz.sizeOf257
  v39 := Tryz.zeroValue257
  i39 := by kernel_rfl
  t44 := Tryz.underlying277
  a44 := Tryz.isAgg277
  z44 := Tryz.sizeOf277
  v44 := Tryz.zeroValue277
  i44 := by kernel_rfl
  t47 := Tryz.underlying284
  a47 := Tryz.isAgg284
  z47 := Tryz.sizeOf284
  v47 := Tryz.zeroValue284
  i47 := by kernel_rfl
  t48 := Tryz.underlying285
  a48 := Tryz.isAgg285
  z48 := Tryz.sizeOf285
  v48 := Tryz.zeroValue285
  i48 := by kernel_rfl
  t50 := Tryz.underlying287
  a50 := Tryz.isAgg287
  z50 := Tryz.sizeOf287
  v50 := Tryz.zeroValue287
  i50 := by kernel_rfl
  t52 := Tryz.underlying247
  a52 := Tryz.isAgg247
  z52 := Tryz.sizeOf247
  v52 := Tryz.zeroValue247
  i52 := by kernel_rfl
  t55 := Tryz.underlying249
  a55 := Tryz.isAgg249
  z55 := Tryz.sizeOf249
  v55 := Tryz.zeroValue249
  i55 := by kernel_rfl
  t59 := Tryz.underlying263
  a59 := Tryz.isAgg263
  z59 := Tryz.sizeOf263
  v59 := Tryz.zeroValue263
  i59 := by kernel_rfl
  t60 := Tryz.underlying229
  a60 := Tryz.isAgg229
  z60 := Tryz.sizeOf229
  v60 := Tryz.zeroValue229
  i60 := by kernel_rfl
  t61 := Tryz.underlying264
  a61 := Tryz.isAgg264
  z61 := Tryz.sizeOf264
  t65 := Tryz.underlying288
  a65 := Tryz.isAgg288
  z65 := Tryz.sizeOf288
  v65 := Tryz.zeroValue288
  i65 := by kernel_rfl
  t66 := Tryz.underlying289
  a66 := Tryz.isAgg289
  z66 := Tryz.sizeOf289
  v66 := Tryz.zeroValue289
  i66 := by kernel_rfl
  t67 := Tryz.underlying153
  a67 := Tryz.isAgg153
  z67 := Tryz.sizeOf153
  v67 := Tryz.zeroValue153
  i67 := by kernel_rfl
  g0 := by kernel_rfl
  m0 := by kernel_rfl
  g1 := by kernel_rfl
  m1 := by kernel_rfl
  g2 := by kernel_rfl
  m2 := by kernel_rfl
  g3 := by kernel_rfl
  m3 := by kernel_rfl
  g4 := by kernel_rfl
  m4 := by kernel_rfl }
def Lay.cutPrefix_ren : Go.Shelf.Ren := ⟨fun | 103 => 178 | 210 => 204 | 206 => 182 | n => n, fun | 9 => 9 | 4 => 4 | 24 => 222 | 3 => 3 | n => n, fun | n => n⟩
theorem Lay.cutPrefix : Go.Proofs.Lays.n103 Tryz.prog Lay.cutPrefix_ren := {
  mixed := by kernel_rfl
  f103 := Tryz.func178.trans (congrArg some (by kernel_rfl))
  f206 := Tryz.func182.trans (congrArg some (by kernel_rfl))
  f210 := Tryz.func204.trans (congrArg some (by kernel_rfl))
  t3 := Tryz.underlying3
  a3 := Tryz.isAgg3
  z3 := Tryz.sizeOf3
  v3 := Tryz.zeroValue3
  t4 := Tryz.underlying4
  a4 := Tryz.isAgg4
  z4 := Tryz.sizeOf4
  v4 := Tryz.zeroValue4
  t9 := Tryz.underlying9
  a9 := Tryz.isAgg9
  z9 := Tryz.sizeOf9
  v9 := Tryz.zeroValue9
  t24 := Tryz.underlying222
  a24 := Tryz.isAgg222
  z24 := Tryz.sizeOf222
  v24 := Tryz.zeroValue222 }
def Lay.hasPrefix_ren : Go.Shelf.Ren := ⟨fun | 99 => 151 | 206 => 182 | n => n, fun | 9 => 9 | 4 => 4 | 3 => 3 | n => n, fun | n => n⟩
theorem Lay.hasPrefix : Go.Proofs.Lays.n99 Tryz.prog Lay.hasPrefix_ren := {
  mixed := by kernel_rfl
  f99 := Tryz.func151.trans (congrArg some (by kernel_rfl))
  f206 := Tryz.func182.trans (congrArg some (by kernel_rfl))
  t3 := Tryz.underlying3
  a3 := Tryz.isAgg3
  z3 := Tryz.sizeOf3
  v3 := Tryz.zeroValue3
  t4 := Tryz.underlying4
  a4 := Tryz.isAgg4
  z4 := Tryz.sizeOf4
  v4 := Tryz.zeroValue4
  t9 := Tryz.underlying9
  a9 := Tryz.isAgg9
  z9 := Tryz.sizeOf9
  v9 := Tryz.zeroValue9 }

theorem nm_data (n : Nm) : (⟨n.toArray⟩ : ByteArray).data.toList = n := rfl

theorem hasPrefix_any (s p : Nm) (w : World) : Calls Tryz.prog 151 #[nm s, nm p] w fun e w' => e = .returned (.bool (Lib.hasPrefix s p)) ∧ w' = w :=
  Any.strings_HasPrefix Lay.hasPrefix ⟨s.toArray⟩ ⟨p.toArray⟩ w

theorem cutPrefix_any (s p : Nm) (w : World) : Calls Tryz.prog 178 #[nm s, nm p] w fun e w' => e = .returned (.tuple #[nm (Lib.trimPrefix s p), .bool (Lib.hasPrefix s p)]) ∧ w' = w :=
  Any.strings_CutPrefix Lay.cutPrefix ⟨s.toArray⟩ ⟨p.toArray⟩ w

theorem parse_two : ∀ n < 100, Lib.parseUintB 64 (dec2 n) = .ok n := by decide
theorem parse_f_two : ∀ n < 100, Lib.parseUintB 64 (102 :: dec2 n) = Lib.parseUintB 64 [] := by decide

theorem parse_dec {n : Nat} (hn : n < 100) (w : World) : Calls Tryz.prog 179 #[nm (dec n), .int .i64 10, .int .i64 64] w fun e w' => e = .returned (.tuple #[.int .u64 n, .nilIface]) ∧ Below w.heap.size w w' := by
  refine (Any.strconv_ParseUint_10_at64_ok Lay.parse ⟨(dec n).toArray⟩ ?_ n ?_ w).mono ?_
  · show (dec n).length ≤ _
    have := dec_len hn
    omega
  · rw [nm_data, dec_two hn]
    exact parse_two n hn
  · rintro e w' ⟨rfl, rfl | rfl⟩
    · exact ⟨rfl, Below.refl _ _⟩
    · exact ⟨rfl, Lib.bytesWorld_below _ _ _⟩

theorem parse_f {n : Nat} (hn : n < 100) (ev : Value) (w : World) (hv : w.cell? ⟨2, 0, none⟩ = some ev) (hev : ev = .nilIface ∨ ∃ te pe, ev = .iface te pe) :
    Calls Tryz.prog 179 #[nm (102 :: dec n), .int .i64 10, .int .i64 64] w fun e w' => ∃ ty N, e = .returned (.tuple #[.int .u64 0, .iface ty (.pointer (some ⟨N, 0, none⟩))]) ∧ Below w.heap.size w w' := by
  refine (Any.strconv_ParseUint_10_at64_syntax Lay.parse ⟨(102 :: dec n).toArray⟩ ?_ ?_ ev w hv hev).mono ?_
  · show (102 :: dec n).length ≤ _
    have := dec_len hn
    simp only [List.length_cons]
    omega
  · rw [nm_data, dec_two hn]
    exact (parse_f_two n hn).trans rfl
  · rintro e w' ⟨N, rfl, _, _, h⟩
    exact ⟨_, N, rfl, h⟩

theorem small_ba (x : ByteArray) (l : List UInt8) (h : x.data.toList = l) : x = ⟨l.toArray⟩ := by
  subst h
  cases x
  simp

set_option maxHeartbeats 2000000 in
set_option maxRecDepth 100000 in
theorem small_any (i : Nat) (h : i < 100) (w : World) : Calls Tryz.prog 208 #[.int .i64 i] w fun e w' => e = .returned (nm (dec i)) ∧ w' = w := by
  go_enter Tryz.func208, Tryz.ntmps208
  go_name_bytes_deep 45 SM hSM
  have eSM : SM = Lib.smalls := by rw [← hSM]; decide +kernel
  subst eSM
  clear hSM
  go_name_bytes_deep 30 DG hDG
  have eDG : DG = Lib.digits36 := by rw [← hDG]; decide +kernel
  subst eDG
  clear hDG
  by_cases h10 : i < 10
  · have hsl : ∀ w, (Instr.slice 9 (.string Lib.digits36) (some (.int .i64 (i : Int))) (some (.int .i64 ((i : Int) + 1))) none).run Tryz.prog w = .ok (.string (Lib.digits36.extract i (i + 1))) w := fun w => by
      rw [run_slice_string w 9 Lib.digits36 .i64 .i64 _ _ Tryz.underlying9 (by omega) (by omega) (by rw [Lib.digits36_size]; omega), show ((i : Int)).toNat = i by omega, show ((i : Int) + 1).toNat = i + 1 by omega]
    go_wp2
    go_ret
    refine ⟨?_, rfl⟩
    rw [small_ba (Lib.digits36.extract i (i + 1)) (Lib.decDigits i) (by rw [Lib.extract_data]; exact Lib.digits36_piece h10)]
    rfl
  · have hsl : ∀ w, (Instr.slice 9 (.string Lib.smalls) (some (.int .i64 ((i : Int) * 2))) (some (.int .i64 ((i : Int) * 2 + 2))) none).run Tryz.prog w = .ok (.string (Lib.smalls.extract (i * 2) (i * 2 + 2))) w := fun w => by
      rw [run_slice_string w 9 Lib.smalls .i64 .i64 _ _ Tryz.underlying9 (by omega) (by omega) (by rw [Lib.smalls_size]; omega), show ((i : Int) * 2).toNat = i * 2 by omega, show ((i : Int) * 2 + 2).toNat = i * 2 + 2 by omega]
    go_wp2
    go_ret
    refine ⟨?_, rfl⟩
    rw [small_ba (Lib.smalls.extract (i * 2) (i * 2 + 2)) (Lib.decDigits i) (by rw [Lib.extract_data]; exact Lib.smalls_piece h10 h)]
    rfl

set_option maxRecDepth 100000 in
theorem format_in (i : Nat) (h : i < 100) (w : World) : Calls Tryz.prog 184 #[.int .u64 i, .int .i64 10] w fun e w' => e = .returned (nm (dec i)) ∧ w' = w := by
  go_enter Tryz.func184, Tryz.ntmps184
  go_wp2_with fail
  refine (small_any i h w).mono ?_
  rintro e w' ⟨rfl, rfl⟩
  go_wp2
  go_ret
  exact ⟨rfl, rfl⟩

theorem format_any (i : Nat) (h : i < 100) (w : World) : Calls Tryz.prog 157 #[.int .u64 i, .int .i64 10] w fun e w' => e = .returned (nm (dec i)) ∧ w' = w := by
  go_enter Tryz.func157, Tryz.ntmps157
  go_wp2_with fail
  refine (format_in i h w).mono ?_
  rintro e w' ⟨rfl, rfl⟩
  go_wp2
  go_ret
  exact ⟨rfl, rfl⟩
end Go.Proofs.YthaggdkfaglgaaaGreatDoor

/- Layer 9 as plain functions: what a log's calls do to its files. No program is named here. -/
namespace Go.Proofs.YthaggdkfaglgaaaGreatDoor.WalMath
set_option maxRecDepth 20000
open Go DiskMath FrameMath

theorem Okop.less {q : Nm} {f : Nat} {R : List (List UInt8)} {m m' : Nat} {o : AOp} (h : Okop q f R m o) (hm : m' ≤ m) : Okop q f R m' o := by
  cases h with
  | gone n hn h1 => exact .gone n hn (by omega)
  | laid n t h => exact .laid n t h
  | put i t h h1 => exact .put i t (by omega) h1

theorem Okop.more {q : Nm} {f : Nat} {R : List (List UInt8)} {m : Nat} {o : AOp} (h : Okop q f R m o) (r : List UInt8) : Okop q f (R ++ [r]) m o := by
  cases h with
  | gone n hn h1 => exact .gone n hn h1
  | laid n t h => exact .laid n t h
  | put i t h h1 => exact .put i t h (by rw [List.getElem?_append_left (List.getElem?_eq_some_iff.1 h1).1]; exact h1)

/-- What a burnt fuse leaves. -/
theorem burn_zero {s : St} (h : s.fuse = 0) : s.burn = { s with off := true } := by
  unfold St.burn
  rw [if_pos h]
theorem burn_now (s : St) : s.burn.now = s.now ∧ s.burn.sure = s.sure ∧ s.burn.ops = s.ops := by
  unfold St.burn
  split
  · exact ⟨rfl, rfl, rfl⟩
  · split
    · exact ⟨rfl, rfl, rfl⟩
    · exact ⟨rfl, rfl, rfl⟩
theorem burn_off {s : St} (h : s.fuse ≠ 0) : s.burn.off = s.off := by
  unfold St.burn
  rw [if_neg h]
  split <;> rfl

/-- An operation that is done, or burns the fuse. -/
theorem run_cases {s : St} (hoff : s.off = false) (o : AOp) : (s.said = 6 ∧ (s.run o).off = true ∧ (s.run o).now = s.now ∧ (s.run o).sure = s.sure ∧ (s.run o).ops = s.ops) ∨
    (s.said = 0 ∧ (s.run o).off = false ∧ (s.run o).now = doA o s.now ∧ (s.run o).sure = s.sure ∧ (s.run o).ops = s.ops ++ [o]) := by
  unfold St.said St.run
  by_cases h : s.fuse = 0
  · left
    rw [if_pos h, if_pos h, burn_zero h]
    exact ⟨rfl, rfl, rfl, rfl, rfl⟩
  · right
    rw [if_neg h, if_neg h]
    exact ⟨rfl, by simp only; rw [burn_off h, hoff], rfl, (burn_now s).2.1, rfl⟩

/-- A file that is there is removed. -/
theorem remove_there {s : St} (hoff : s.off = false) {n : Nm} (h : (getA n s.now).isSome = true) : s.remove n = (s.said, s.run ⟨2, n, [], 0, []⟩) := by
  unfold St.remove
  rw [hoff]
  cases hg : getA n s.now with
  | none => rw [hg] at h; cases h
  | some t => rfl

/-- The records from a on are removed, the last of them first. -/
def dropA (q : Nm) (a : Nat) : Nat → St → Nat × St
  | 0, s => (0, s)
  | k + 1, s => if (s.remove (recN q (a + k))).1 = 0 then dropA q a k (s.remove (recN q (a + k))).2 else s.remove (recN q (a + k))

/-- How a disk stands while a call works on it. -/
structure Work (q : Nm) (s : St) (f : Nat) (R : List (List UInt8)) (m : Nat) (K : Nat) : Prop where
  sure : May q s.sure f R m
  ops : ∀ o ∈ s.ops, Okop q f R m o
  few : s.ops.length ≤ K

theorem Work.crash {q : Nm} {s : St} {f : Nat} {R : List (List UInt8)} {m K : Nat} (h : Work q s f R m K) (keep : List Bool) (torn : Int) : May q (s.crash keep torn).now f R m :=
  crash_keeps (fun F => May q F f R m) s (fun o ho _ k hF => (h.ops o ho).keeps hF k) h.sure keep torn

theorem Work.step {q : Nm} {s s' : St} {f : Nat} {R : List (List UInt8)} {m K : Nat} (h : Work q s f R m K) {o : AOp} (ho : Okop q f R m o) (h1 : s'.sure = s.sure) (h2 : s'.ops = s.ops ++ [o]) : Work q s' f R m (K + 1) :=
  ⟨by rw [h1]; exact h.sure, fun o' ho' => by
    rw [h2] at ho'
    rcases List.mem_append.1 ho' with h3 | h3
    · exact h.ops o' h3
    · rw [List.mem_singleton.1 h3]; exact ho, by rw [h2]; simpa using h.few⟩

theorem Work.same {q : Nm} {s s' : St} {f : Nat} {R : List (List UInt8)} {m K K' : Nat} (h : Work q s f R m K) (h1 : s'.sure = s.sure) (h2 : s'.ops = s.ops) (hK : K ≤ K') : Work q s' f R m K' :=
  ⟨by rw [h1]; exact h.sure, by rw [h2]; exact h.ops, by rw [h2]; exact Nat.le_trans h.few hK⟩

theorem drop_step {q : Nm} {f : Nat} {R : List (List UInt8)} {m : Nat} (a : Nat) : ∀ (k : Nat) (s : St) (K : Nat), s.off = false → Work q s f R m K → Rise s.now → a + k ≤ 100 → (∀ n, a ≤ n → n < a + k → n < f ∨ f + m ≤ n) →
    (∀ n, a ≤ n → n < a + k → (getA (recN q n) s.now).isSome = true) →
    ((dropA q a k s).1 = 6 ∧ (dropA q a k s).2.off = true ∧ Work q (dropA q a k s).2 f R m (K + k)) ∨
    ((dropA q a k s).1 = 0 ∧ (dropA q a k s).2.off = false ∧ Work q (dropA q a k s).2 f R m (K + k) ∧ Rise (dropA q a k s).2.now ∧ (∀ p ∈ (dropA q a k s).2.now, p ∈ s.now) ∧
      (∀ n, a ≤ n → n < a + k → getA (recN q n) (dropA q a k s).2.now = none) ∧ (∀ x, (∀ n, a ≤ n → n < a + k → x ≠ recN q n) → getA x (dropA q a k s).2.now = getA x s.now))
  | 0, s, K, hoff, hw, hr, _, _, _ => .inr ⟨rfl, hoff, hw, hr, fun p hp => hp, fun n h1 h2 => by omega, fun x _ => rfl⟩
  | k + 1, s, K, hoff, hw, hr, hl, hlow, hthere => by
    have hrm := remove_there hoff (hthere (a + k) (by omega) (by omega))
    unfold dropA
    rw [hrm]
    have hop : Okop q f R m ⟨2, recN q (a + k), [], 0, []⟩ := .gone _ (by omega) (hlow _ (by omega) (by omega))
    rcases run_cases hoff ⟨2, recN q (a + k), [], 0, []⟩ with ⟨h0, h1, h2, h3, h4⟩ | ⟨h0, h1, h2, h3, h4⟩
    · left
      simp only
      rw [h0, if_neg (by decide)]
      exact ⟨rfl, h1, hw.same h3 h4 (by omega)⟩
    · simp only
      rw [h0, if_pos rfl]
      rw [doA_gone] at h2
      generalize s.run ⟨2, recN q (a + k), [], 0, []⟩ = s1 at h1 h2 h3 h4 ⊢
      have hoth : ∀ n, a ≤ n → n < a + k → recN q n ≠ recN q (a + k) := fun n g1 g2 => rec_ne (by omega) (by omega) (by omega)
      rcases drop_step a k s1 (K + 1) h1 (hw.step hop h3 h4) (by rw [h2]; exact rise_del hr) (by omega) (fun n g1 g2 => hlow n g1 (by omega)) (fun n g1 g2 => by rw [h2, getA_del_other hr (hoth n g1 g2)]; exact hthere n g1 (by omega)) with ⟨r1, r2, r3⟩ | ⟨r1, r2, r3, r4, r5, r6, r7⟩
      · exact .inl ⟨r1, r2, r3.same rfl rfl (by omega)⟩
      · refine .inr ⟨r1, r2, r3.same rfl rfl (by omega), r4, fun p hp => ?_, fun n g1 g2 => ?_, fun x hx => ?_⟩
        · have := r5 p hp
          rw [h2] at this
          exact (mem_del.1 this).1
        · by_cases e : n = a + k
          · subst e
            rw [r7 _ fun n' g3 g4 e' => hoth n' g3 g4 e'.symm, h2, getA_del_same]
          · exact r6 n g1 (by omega)
        · rw [r7 x fun n g1 g2 => hx n g1 (by omega), h2, getA_del_other hr (hx _ (by omega) (by omega))]

/-- Sync of an up disk. -/
theorem sync_cases {s : St} (hoff : s.off = false) : (s.sync.1 = 6 ∧ s.sync.2.off = true ∧ s.sync.2.now = s.now ∧ s.sync.2.sure = s.sure ∧ s.sync.2.ops = s.ops) ∨
    (s.sync.1 = 0 ∧ s.sync.2.off = false ∧ s.sync.2.now = s.now ∧ s.sync.2.sure = s.now ∧ s.sync.2.ops = []) := by
  unfold St.sync
  rw [hoff]
  by_cases h : s.fuse = 0
  · left
    rw [if_neg (by decide), if_pos h, burn_zero h]
    exact ⟨rfl, rfl, rfl, rfl, rfl⟩
  · right
    rw [if_neg (by decide), if_neg h]
    refine ⟨rfl, ?_, (burn_now s).1, rfl, rfl⟩
    simp only
    rw [burn_off h, hoff]

theorem Rest.work {q : Nm} {s : St} {f : Nat} {R : List (List UInt8)} {m K : Nat} (h : Rest q s f R m) (hK : s.ops.length ≤ K) : Work q s f R m K := ⟨h.sure, h.ops, hK⟩

/-- Sync, told of a log. -/
theorem rest_sync {q : Nm} {s : St} {f : Nat} {R : List (List UInt8)} {m : Nat} (h : Rest q s f R m) :
    (s.sync.1 = 6 ∧ s.sync.2.off = true ∧ ∀ keep torn, May q (s.sync.2.crash keep torn).now f R m) ∨ (s.sync.1 = 0 ∧ Rest q s.sync.2 f R R.length ∧ s.sync.2.ops = []) := by
  rcases sync_cases h.off with ⟨h1, h2, h3, h4, h5⟩ | ⟨h1, h2, h3, h4, h5⟩
  · exact .inl ⟨h1, h2, fun keep torn => Work.crash ((h.work (Nat.le_refl _)).same h4 h5 (Nat.le_refl _)) keep torn⟩
  · refine .inr ⟨h1, ⟨h2, ?_, ?_, ?_⟩, h5⟩
    · rw [h4]; exact h.now
    · rw [h5]; exact fun o ho => absurd ho List.not_mem_nil
    · rw [h3]; exact h.now

/-- A record is laid. -/
def layA (q : Nm) (s : St) (n : Nat) (r : List UInt8) : Nat × St := s.write (recN q n) 0 (frameF r)

theorem write_cases {s : St} (hoff : s.off = false) {n : Nm} (hn : named n = true) (b : List UInt8) : (s.write n 0 b = (7, s)) ∨ s.write n 0 b = (s.said, s.run ⟨0, n, [], 0, b⟩) := by
  unfold St.write
  rw [hoff, hn]
  simp only [Bool.false_eq_true, if_false, Bool.not_true]
  rw [if_neg (by omega)]
  split
  · exact .inl rfl
  · exact .inr rfl

theorem rest_append {q : Nm} {s : St} {f : Nat} {R : List (List UInt8)} {m : Nat} (hq : wn q) (h : Rest q s f R m) (r : List UInt8) (hr : r.length ≤ 16384) (hl : f + R.length ≤ 98) :
    (layA q s (f + R.length) r = (7, s)) ∨ ((layA q s (f + R.length) r).1 = 6 ∧ (layA q s (f + R.length) r).2.off = true ∧ ∀ keep torn, May q ((layA q s (f + R.length) r).2.crash keep torn).now f R m) ∨
    ((layA q s (f + R.length) r).1 = 0 ∧ Rest q (layA q s (f + R.length) r).2 f (R ++ [r]) m ∧ (layA q s (f + R.length) r).2.ops.length = s.ops.length + 1) := by
  unfold layA
  rcases write_cases h.off (rec_named hq (show f + R.length < 100 by omega)) (frameF r) with e | e
  · exact .inl e
  · right
    rw [e]
    rcases run_cases h.off ⟨0, recN q (f + R.length), [], 0, frameF r⟩ with ⟨h0, h1, h2, h3, h4⟩ | ⟨h0, h1, h2, h3, h4⟩
    · exact .inl ⟨h0, h1, fun keep torn => Work.crash ((h.work (Nat.le_refl _)).same h3 h4 (Nat.le_refl _)) keep torn⟩
    · have hfree := h.now.free (f + R.length) (by omega) (by omega)
      have hrise := h.now.rise
      have hput : Okop q f (R ++ [r]) m ⟨0, recN q (f + R.length), [], 0, frameF r⟩ := .put R.length r h.sure.lo (by rw [List.getElem?_append_right (Nat.le_refl _)]; simp)
      refine .inr ⟨h0, ⟨h1, ?_, ?_, ?_⟩, by simp only [h4]; simp⟩
      · simp only [h3]; exact h.sure.more r hr hl
      · simp only [h4]
        intro o ho
        rcases List.mem_append.1 ho with h5 | h5
        · exact (h.ops o h5).more r
        · rw [List.mem_singleton.1 h5]; exact hput
      · simp only [h2]
        rw [doA_write, hfree]
        simp only [Option.getD_none, List.drop_nil, List.append_nil]
        have hne : ∀ j, j < 100 → j ≠ f + R.length → recN q j ≠ recN q (f + R.length) := fun j hj e => rec_ne hj (by omega) e
        have hM := h.now.more r hr hl
        refine ⟨rise_put hrise, own_put h.now.own (n := f + R.length) (by omega) (.inl rfl), fun j hj => by rw [getA_put_other hrise (markrec_ne (by omega))]; exact hM.mark j hj, fun i t hi _ => ?_, fun i t u hi hu => ?_, fun j h6 h7 => ?_, Nat.le_refl _, hM.lim, hM.long⟩
        · by_cases e : i = R.length
          · subst e
            rw [List.getElem?_append_right (Nat.le_refl _)] at hi
            simp only [Nat.sub_self, List.getElem?_cons_zero, Option.some.injEq] at hi
            rw [getA_put_same hrise, hi]
          · have hlt : i < R.length := by
              have := (List.getElem?_eq_some_iff.1 hi).1
              simp only [List.length_append, List.length_cons, List.length_nil] at this
              omega
            rw [getA_put_other hrise (hne _ (by omega) (by omega))]
            rw [List.getElem?_append_left hlt] at hi
            exact h.now.has i t hi hlt
        · by_cases e : i = R.length
          · subst e
            rw [List.getElem?_append_right (Nat.le_refl _)] at hi
            simp only [Nat.sub_self, List.getElem?_cons_zero, Option.some.injEq] at hi
            rw [getA_put_same hrise] at hu
            cases hu
            exact ⟨(frameF t).length, by rw [hi, List.take_length]⟩
          · have hlt : i < R.length := by
              have := (List.getElem?_eq_some_iff.1 hi).1
              simp only [List.length_append, List.length_cons, List.length_nil] at this
              omega
            rw [getA_put_other hrise (hne _ (by omega) (by omega))] at hu
            rw [List.getElem?_append_left hlt] at hi
            exact h.now.part i t u hi hu
        · simp only [List.length_append, List.length_cons, List.length_nil] at h6
          rw [getA_put_other hrise (hne _ h7 (by omega))]
          exact h.now.free j (by omega) h7

/-- The records from k on are cut off. -/
def cutA (q : Nm) (s : St) (f k len : Nat) : Nat × St := if (dropA q (f + k) (len - k) s).1 = 0 then (dropA q (f + k) (len - k) s).2.sync else dropA q (f + k) (len - k) s

theorem rest_cut {q : Nm} {s : St} {f : Nat} {R : List (List UInt8)} {m k : Nat} (h : Rest q s f R m) (hk : k ≤ R.length) :
    ((cutA q s f k R.length).1 = 6 ∧ (cutA q s f k R.length).2.off = true ∧ ∀ keep torn, May q ((cutA q s f k R.length).2.crash keep torn).now f R (min m k)) ∨
    ((cutA q s f k R.length).1 = 0 ∧ Rest q (cutA q s f k R.length).2 f (R.take k) k ∧ (cutA q s f k R.length).2.ops = []) := by
  have hlim := h.now.lim
  have hw : Work q s f R (min m k) s.ops.length := ⟨h.sure.less (by omega), fun o ho => (h.ops o ho).less (by omega), Nat.le_refl _⟩
  have hthere : ∀ n, f + k ≤ n → n < f + k + (R.length - k) → (getA (recN q n) s.now).isSome = true := fun n h1 h2 => by
    have := h.now.has (n - f) R[n - f] (List.getElem?_eq_some_iff.2 ⟨by omega, rfl⟩) (by omega)
    rw [show f + (n - f) = n by omega] at this
    rw [this]; rfl
  unfold cutA
  rcases drop_step (f + k) (R.length - k) s _ h.off hw h.now.rise (by omega) (fun n h1 h2 => by omega) hthere with ⟨r1, r2, r3⟩ | ⟨r1, r2, r3, r4, r5, r6, r7⟩
  · left
    rw [if_neg (by omega)]
    exact ⟨r1, r2, fun keep torn => r3.crash keep torn⟩
  · rw [if_pos r1]
    generalize (dropA q (f + k) (R.length - k) s).2 = s1 at r2 r3 r4 r5 r6 r7 ⊢
    have hnone : ∀ o ∈ ([] : List AOp), Okop q f (R.take k) k o := fun o ho => absurd ho List.not_mem_nil
    rcases sync_cases r2 with ⟨h1, h2, h3, h4, h5⟩ | ⟨h1, h2, h3, h4, h5⟩
    · exact .inl ⟨h1, h2, fun keep torn => (r3.same h4 h5 (Nat.le_refl _)).crash keep torn⟩
    · have hM : May q s1.now f (R.take k) k := by
        have el : (R.take k).length = k := by rw [List.length_take]; omega
        have hget : ∀ i, i < k → getA (recN q (f + i)) s1.now = getA (recN q (f + i)) s.now := fun i hi => r7 _ fun n g1 g2 => rec_ne (by omega) (by omega) (by omega)
        refine ⟨r4, fun p hp => h.now.own p (r5 p hp), fun n hn => by rw [r7 _ fun n' g1 g2 => markrec_ne (by omega)]; exact h.now.mark n hn, fun i t hi hik => ?_, fun i t u hi hu => ?_, fun n h6 h7 => ?_, by omega, by omega, fun t ht => h.now.long t (List.mem_of_mem_take ht)⟩
        · rw [List.getElem?_take_of_lt hik] at hi
          rw [hget i hik]
          exact h.now.has i t hi (by omega)
        · have hik := (List.getElem?_eq_some_iff.1 hi).1
          rw [el] at hik
          rw [List.getElem?_take_of_lt hik] at hi
          rw [hget i hik] at hu
          exact h.now.part i t u hi hu
        · rw [el] at h6
          by_cases h8 : n < f + R.length
          · exact r6 n h6 (by omega)
          · rw [r7 _ fun n' g1 g2 => rec_ne h7 (by omega) (by omega)]
            exact h.now.free n (by omega) h7
      refine .inr ⟨h1, ⟨h2, by rw [h4]; exact hM, by rw [h5]; exact hnone, ?_⟩, h5⟩
      rw [h3]
      have el : (R.take k).length = k := by rw [List.length_take]; omega
      rw [el]
      exact hM

/-- The first number is told. -/
def markA (q : Nm) (s : St) (old first : Nat) : Nat × St :=
  if old = first then (0, s) else if old = 0 then s.write (markN q first) 0 [] else s.rename (markN q old) (markN q first)

/-- The log from its k-th record on, of the same files but for the mark. -/
theorem May.fore {q : Nm} {F F' : Fs} {f : Nat} {R : List (List UInt8)} {lo k : Nat} (h : May q F f R lo) (hk : k ≤ R.length) (hr : Rise F') (ho : ∀ p ∈ F', ∃ n, n < 100 ∧ (p.1 = recN q n ∨ p.1 = markN q n))
    (hm : ∀ n, n < 100 → ((getA (markN q n) F').isSome = true ↔ (n = f + k ∧ 0 < f + k))) (hg : ∀ n, f + k ≤ n → n < 100 → getA (recN q n) F' = getA (recN q n) F) : May q F' (f + k) (R.drop k) (lo - k) where
  rise := hr
  own := ho
  mark := hm
  has i t hi hlt := by
    have h1 := (List.getElem?_eq_some_iff.1 hi).1
    rw [List.length_drop] at h1
    have h2 := h.lim
    rw [List.getElem?_drop] at hi
    rw [hg _ (by omega) (by omega), show f + k + i = f + (k + i) by omega]
    exact h.has (k + i) t hi (by omega)
  part i t u hi hu := by
    have h1 := (List.getElem?_eq_some_iff.1 hi).1
    rw [List.length_drop] at h1
    have h2 := h.lim
    rw [List.getElem?_drop] at hi
    rw [hg _ (by omega) (by omega), show f + k + i = f + (k + i) by omega] at hu
    exact h.part (k + i) t u hi hu
  free n h1 h2 := by
    rw [List.length_drop] at h1
    rw [hg n (by omega) h2]
    exact h.free n (by omega) h2
  lo := by have := h.lo; rw [List.length_drop]; omega
  lim := by have := h.lim; rw [List.length_drop]; omega
  long t ht := h.long t (List.mem_of_mem_drop ht)

theorem Okop.fore {q : Nm} {f : Nat} {R : List (List UInt8)} {m k : Nat} {o : AOp} (h : Okop q f R m o) : Okop q (f + k) (R.drop k) (m - k) o := by
  cases h with
  | gone n hn h1 => exact .gone n hn (by omega)
  | laid n t h => exact .laid n t (by omega)
  | put i t h h1 =>
    by_cases hik : i < k
    · exact .laid _ _ (by omega)
    · have := Okop.put (q := q) (f := f + k) (R := R.drop k) (m := m - k) (i - k) t (by omega) (by rw [List.getElem?_drop, show k + (i - k) = i by omega]; exact h1)
      rw [show f + k + (i - k) = f + i by omega] at this
      exact this

/-- What a mark that is told makes of what may lie. -/
def markO (q : Nm) (old first : Nat) : AOp := if old = 0 then ⟨0, markN q first, [], 0, []⟩ else ⟨3, markN q old, markN q first, 0, []⟩

theorem marked {q : Nm} {F : Fs} {f : Nat} {R : List (List UInt8)} {lo k : Nat} (h : May q F f R lo) (hk : k ≤ R.length) (h0 : 0 < k) : May q (doA (markO q f (f + k)) F) (f + k) (R.drop k) (lo - k) := by
  have hlim := h.lim
  unfold markO
  by_cases hf : f = 0
  · rw [if_pos hf, doA_write]
    simp only [List.length_nil, List.drop_zero, List.nil_append]
    refine h.fore hk (rise_put h.rise) (own_put h.own (n := f + k) (by omega) (.inr rfl)) (fun n hn => ?_) fun n h1 h2 => getA_put_other h.rise (recmark_ne h2)
    by_cases e : n = f + k
    · subst e
      rw [getA_put_same h.rise]
      exact ⟨fun _ => ⟨rfl, by omega⟩, fun _ => rfl⟩
    · rw [getA_put_other h.rise (mark_ne hn (by omega) e), h.mark n hn]
      omega
  · rw [if_neg hf]
    obtain ⟨t, ht⟩ := Option.isSome_iff_exists.1 ((h.mark f (by omega)).2 ⟨rfl, by omega⟩)
    rw [doA_rename ht]
    have hr := rise_del (n := markN q f) h.rise
    refine h.fore hk (rise_put hr) (own_put (fun p hp => h.own p (mem_del.1 hp).1) (n := f + k) (by omega) (.inr rfl)) (fun n hn => ?_) fun n h1 h2 => by rw [getA_put_other hr (recmark_ne h2), getA_del_other h.rise (recmark_ne h2)]
    by_cases e : n = f + k
    · subst e
      rw [getA_put_same hr]
      exact ⟨fun _ => ⟨rfl, by omega⟩, fun _ => rfl⟩
    · rw [getA_put_other hr (mark_ne hn (by omega) e)]
      by_cases e2 : n = f
      · subst e2
        rw [getA_del_same]
        simp only [Option.isSome_none, Bool.false_eq_true, false_iff, not_and]
        omega
      · rw [getA_del_other h.rise (mark_ne hn (by omega) e2), h.mark n hn]
        omega

/-- Behind a mark that is told once more nothing turns. -/
theorem marked_again {q : Nm} {F : Fs} {f : Nat} {R : List (List UInt8)} {lo k : Nat} (hl : f + k ≤ 99) (h : May q F (f + k) R lo) (h0 : 0 < k) : doA (markO q f (f + k)) F = F := by
  unfold markO
  by_cases hf : f = 0
  · rw [if_pos hf, doA_write]
    obtain ⟨t, ht⟩ := Option.isSome_iff_exists.1 ((h.mark (f + k) (by omega)).2 ⟨rfl, by omega⟩)
    simp only [List.length_nil, List.drop_zero, List.nil_append]
    rw [ht]
    exact put_self h.rise ht
  · rw [if_neg hf]
    have hn : getA (markN q f) F = none := by
      cases hg : getA (markN q f) F with
      | none => rfl
      | some t =>
        have := (h.mark f (by omega)).1 (by rw [hg]; rfl)
        omega
    simp [doA, hn]

theorem markO_b (q : Nm) (old first : Nat) (k : Nat) : ({ markO q old first with b := (markO q old first).b.take k } : AOp) = markO q old first := by
  unfold markO
  split <;> simp

/-- Trim. -/
def trimA (q : Nm) (s : St) (f k : Nat) : Nat × St :=
  if (markA q s f (f + k)).1 = 0 then (if (markA q s f (f + k)).2.sync.1 = 0 then dropA q f k (markA q s f (f + k)).2.sync.2 else (markA q s f (f + k)).2.sync) else markA q s f (f + k)

theorem mark_cases {q : Nm} {s : St} {f : Nat} {R : List (List UInt8)} {m k : Nat} (hq : wn q) (h : Rest q s f R m) (hk : k ≤ R.length) (h0 : 0 < k) :
    markA q s f (f + k) = (7, s) ∨ markA q s f (f + k) = (s.said, s.run (markO q f (f + k))) := by
  have hlim := h.now.lim
  unfold markA markO
  rw [if_neg (by omega)]
  by_cases hf : f = 0
  · rw [if_pos hf, if_pos hf]
    exact write_cases h.off (mark_named hq (by omega)) []
  · rw [if_neg hf, if_neg hf]
    right
    obtain ⟨t, ht⟩ := Option.isSome_iff_exists.1 ((h.now.mark f (by omega)).2 ⟨rfl, by omega⟩)
    unfold St.rename
    rw [h.off, ht]
    simp [mark_named hq (show f + k < 100 by omega)]

/-- What may lie behind a Trim that was lost. -/
def Either (q : Nm) (f : Nat) (R : List (List UInt8)) (m k : Nat) (F : Fs) : Prop := May q F f R m ∨ May q F (f + k) (R.drop k) (m - k)

theorem rest_trim {q : Nm} {s : St} {f : Nat} {R : List (List UInt8)} {m k : Nat} (hq : wn q) (h : Rest q s f R m) (hk : k ≤ R.length) :
    (trimA q s f k = (7, s)) ∨ ((trimA q s f k).1 = 6 ∧ (trimA q s f k).2.off = true ∧ ∀ keep torn, Either q f R m k ((trimA q s f k).2.crash keep torn).now) ∨
    ((trimA q s f k).1 = 0 ∧ Rest q (trimA q s f k).2 (f + k) (R.drop k) (R.length - k) ∧ (trimA q s f k).2.ops.length ≤ k) := by
  have hlim := h.now.lim
  unfold trimA
  by_cases hk0 : k = 0
  · subst hk0
    have e : markA q s f (f + 0) = (0, s) := by unfold markA; rw [if_pos (by omega)]
    right
    rw [e]
    simp only [if_true]
    rcases rest_sync h with ⟨h1, h2, h3⟩ | ⟨h1, h2, h3⟩
    · left
      rw [if_neg (by omega)]
      exact ⟨h1, h2, fun keep torn => .inl (h3 keep torn)⟩
    · right
      rw [if_pos h1]
      simp only [dropA, Nat.add_zero, List.drop_zero, Nat.sub_zero]
      exact ⟨trivial, h2, by rw [h3]; exact Nat.le_refl _⟩
  · rcases mark_cases hq h hk (by omega) with e | e
    · left
      rw [e]
      rfl
    · right
      rw [e]
      have both : ∀ o ∈ s.ops ++ [markO q f (f + k)], ∀ (F : Fs) (j : Nat), Either q f R m k F → Either q f R m k (doA { o with b := o.b.take j } F) := fun o ho F j hF => by
        rcases List.mem_append.1 ho with h5 | h5
        · rcases hF with h6 | h6
          · exact .inl ((h.ops o h5).keeps h6 j)
          · exact .inr (((h.ops o h5).fore).keeps h6 j)
        · rw [List.mem_singleton.1 h5, markO_b]
          rcases hF with h6 | h6
          · exact .inr (marked h6 hk (by omega))
          · rw [marked_again (by omega) h6 (by omega)]; exact .inr h6
      rcases run_cases h.off (markO q f (f + k)) with ⟨h0, h1, h2, h3, h4⟩ | ⟨h0, h1, h2, h3, h4⟩
      · left
        simp only
        rw [h0, if_neg (by decide)]
        refine ⟨rfl, h1, fun keep torn => ?_⟩
        refine crash_keeps (Either q f R m k) _ (fun o ho F j hF => both o ?_ F j hF) (by rw [h3]; exact .inl h.sure) keep torn
        rw [h4] at ho
        exact List.mem_append_left _ ho
      · simp only
        rw [h0, if_pos rfl]
        generalize s.run (markO q f (f + k)) = s1 at h1 h2 h3 h4 ⊢
        have hM : May q s1.now (f + k) (R.drop k) (R.length - k) := by rw [h2]; exact marked h.now hk (by omega)
        rcases sync_cases h1 with ⟨g1, g2, g3, g4, g5⟩ | ⟨g1, g2, g3, g4, g5⟩
        · left
          rw [if_neg (by omega)]
          refine ⟨g1, g2, fun keep torn => ?_⟩
          refine crash_keeps (Either q f R m k) _ (fun o ho F j hF => both o ?_ F j hF) (by rw [g4, h3]; exact .inl h.sure) keep torn
          rw [g5, h4] at ho
          exact ho
        · rw [if_pos g1]
          generalize s1.sync.2 = s2 at g2 g3 g4 g5 ⊢
          have hw : Work q s2 (f + k) (R.drop k) (R.length - k) 0 := ⟨by rw [g4]; exact hM, by rw [g5]; exact fun o ho => absurd ho List.not_mem_nil, by rw [g5]; exact Nat.le_refl _⟩
          have hthere : ∀ n, f ≤ n → n < f + k → (getA (recN q n) s2.now).isSome = true := fun n i1 i2 => by
            have := h.now.has (n - f) R[n - f] (List.getElem?_eq_some_iff.2 ⟨by omega, rfl⟩) (by omega)
            rw [show f + (n - f) = n by omega] at this
            have e2 : getA (recN q n) (doA (markO q f (f + k)) s.now) = getA (recN q n) s.now := by
              unfold markO
              by_cases hf : f = 0
              · rw [if_pos hf, doA_write, getA_put_other h.now.rise (recmark_ne (by omega))]
              · rw [if_neg hf]
                obtain ⟨t, ht⟩ := Option.isSome_iff_exists.1 ((h.now.mark f (by omega)).2 ⟨rfl, by omega⟩)
                rw [doA_rename ht, getA_put_other (rise_del h.now.rise) (recmark_ne (by omega)), getA_del_other h.now.rise (recmark_ne (by omega))]
            rw [g3, h2, e2, this]
            rfl
          have hlen : (R.drop k).length = R.length - k := List.length_drop
          rcases drop_step f k s2 0 g2 hw (by rw [g3]; exact hM.rise) (by omega) (fun n i1 i2 => .inl i2) hthere with ⟨r1, r2, r3⟩ | ⟨r1, r2, r3, r4, r5, r6, r7⟩
          · refine .inl ⟨r1, r2, fun keep torn => .inr ((r3.crash keep torn).less ?_)⟩
            have := h.sure.lo
            omega
          · refine .inr ⟨r1, ⟨r2, r3.sure, r3.ops, ?_⟩, by have := r3.few; omega⟩
            rw [hlen]
            have hM2 : May q s2.now (f + k) (R.drop k) (R.length - k) := by rw [g3]; exact hM
            exact hM2.to r4 (fun p hp => hM2.own p (r5 p hp)) (fun n hn => by rw [r7 _ fun n' i1 i2 => markrec_ne (by omega)]) fun n i1 i2 => .inl (r7 _ fun n' i3 i4 => rec_ne i2 (by omega) (by omega))
end Go.Proofs.YthaggdkfaglgaaaGreatDoor.WalMath

/- Layer 9 as plain functions: what is read of a log's files, and what is swept away. No program is named here. -/
namespace Go.Proofs.YthaggdkfaglgaaaGreatDoor.WalMath
set_option maxRecDepth 20000
open Go DiskMath FrameMath

/-- A record that lies as a whole. -/
def wholeF (u : List UInt8) : Option (List UInt8) := match oneF u with
  | .ok (t, k) => if k = u.length then some t else none
  | .error _ => none
def readF (F : Fs) (q : Nm) (n : Nat) : Option (List UInt8) := (getA (recN q n) F).bind wholeF

theorem whole_frame (t : List UInt8) (ht : t.length ≤ 16384) : wholeF (frameF t) = some t := by
  have h := one_frame t [] (by omega)
  rw [List.append_nil] at h
  unfold wholeF
  rw [h]
  simp

theorem whole_take (t : List UInt8) (ht : t.length ≤ 16384) (k : Nat) : wholeF ((frameF t).take k) = none ∨ (frameF t).take k = frameF t := by
  by_cases hk : k < (frameF t).length
  · left
    obtain ⟨c, hc⟩ := one_cut t [] (by omega) k hk
    rw [List.append_nil] at hc
    unfold wholeF
    rw [hc]
  · right
    exact List.take_of_length_le (by omega)

section
variable {q : Nm} {F : Fs} {f : Nat} {R : List (List UInt8)} {lo : Nat}

theorem May.read_has (h : May q F f R lo) {i : Nat} {t : List UInt8} (hi : R[i]? = some t) (hl : i < lo) : readF F q (f + i) = some t := by
  unfold readF
  rw [h.has i t hi hl]
  exact whole_frame t (h.long t (List.mem_of_getElem? hi))

theorem May.read_one (h : May q F f R lo) {i : Nat} {t : List UInt8} (hi : R[i]? = some t) : readF F q (f + i) = none ∨ (readF F q (f + i) = some t ∧ getA (recN q (f + i)) F = some (frameF t)) := by
  unfold readF
  cases hg : getA (recN q (f + i)) F with
  | none => exact .inl rfl
  | some u =>
    obtain ⟨k, rfl⟩ := h.part i t u hi hg
    have ht := h.long t (List.mem_of_getElem? hi)
    rcases whole_take t ht k with h1 | h1
    · exact .inl h1
    · right
      rw [h1]
      exact ⟨whole_frame t ht, rfl⟩

theorem May.read_end (h : May q F f R lo) {n : Nat} (h1 : f + R.length ≤ n) (h2 : n < 100) : readF F q n = none := by
  unfold readF
  rw [h.free n h1 h2]
  rfl
end

/-- The files of a log with these ends. -/
def keepN (q : Nm) (f nx : Nat) (x : Nm) : Prop := (∃ n, f ≤ n ∧ n < nx ∧ n < 100 ∧ x = recN q n) ∨ (0 < f ∧ x = markN q f)
def keepB (q : Nm) (f nx : Nat) (x : Nm) : Bool := (List.range 100).any (fun n => decide (f ≤ n) && decide (n < nx) && x == recN q n) || (decide (0 < f) && x == markN q f)

theorem keepB_true {q : Nm} {f nx : Nat} {x : Nm} : keepB q f nx x = true ↔ keepN q f nx x := by
  unfold keepB keepN
  simp only [Bool.or_eq_true, List.any_eq_true, List.mem_range, Bool.and_eq_true, decide_eq_true_eq, beq_iff_eq]
  constructor
  · rintro (⟨n, h1, ⟨h2, h3⟩, h4⟩ | h)
    · exact .inl ⟨n, h2, h3, h1, h4⟩
    · exact .inr h
  · rintro (⟨n, h1, h2, h3, h4⟩ | h)
    · exact .inl ⟨n, h3, ⟨h1, h2⟩, h4⟩
    · exact .inr h
theorem keepB_rec {q : Nm} {f nx n : Nat} (hn : n < 100) : keepB q f nx (recN q n) = (decide (f ≤ n) && decide (n < nx)) := by
  rw [Bool.eq_iff_iff, keepB_true]
  simp only [Bool.and_eq_true, decide_eq_true_eq]
  constructor
  · rintro (⟨n', h1, h2, h3, h4⟩ | ⟨_, h1⟩)
    · rw [rec_inj hn h3 h4]; exact ⟨h1, h2⟩
    · exact (rec_mark hn h1).elim
  · rintro ⟨h1, h2⟩
    exact .inl ⟨n, h1, h2, hn, rfl⟩
theorem keepB_mark {q : Nm} {f nx n : Nat} (hn : n < 100) (hf : f < 100) : keepB q f nx (markN q n) = (decide (n = f) && decide (0 < f)) := by
  rw [Bool.eq_iff_iff, keepB_true]
  simp only [Bool.and_eq_true, decide_eq_true_eq]
  constructor
  · rintro (⟨n', h1, h2, h3, h4⟩ | ⟨h0, h1⟩)
    · exact (rec_mark h3 h4.symm).elim
    · exact ⟨mark_inj hn hf h1, h0⟩
  · rintro ⟨rfl, h2⟩
    exact .inr ⟨h2, rfl⟩

/-- What is not kept is removed. -/
def sweepA (keep : Nm → Bool) : List Nm → St → Nat × St
  | [], s => (0, s)
  | x :: l, s => if keep x = true then sweepA keep l s else if (s.remove x).1 = 0 then sweepA keep l (s.remove x).2 else s.remove x

theorem sweep_step {q : Nm} {f nx : Nat} {R : List (List UInt8)} {lo : Nat} (hx : f + lo ≤ nx) (hf : f < 100) : ∀ (l : List Nm) (s : St), s.off = false → May q s.sure f R lo →
    (∀ o ∈ s.ops, ∀ F k, May q F f R lo → May q (doA { o with b := o.b.take k } F) f R lo) → Rise s.now → l.Nodup → (∀ x ∈ l, (getA x s.now).isSome = true ∧ ∃ n, n < 100 ∧ (x = recN q n ∨ x = markN q n)) →
    ((sweepA (keepB q f nx) l s).1 = 6 ∧ (sweepA (keepB q f nx) l s).2.off = true ∧ ∀ keep torn, May q ((sweepA (keepB q f nx) l s).2.crash keep torn).now f R lo) ∨
    ((sweepA (keepB q f nx) l s).1 = 0 ∧ (sweepA (keepB q f nx) l s).2.off = false ∧ May q (sweepA (keepB q f nx) l s).2.sure f R lo ∧ (∀ o ∈ (sweepA (keepB q f nx) l s).2.ops, ∀ F k, May q F f R lo → May q (doA { o with b := o.b.take k } F) f R lo) ∧
      Rise (sweepA (keepB q f nx) l s).2.now ∧ (∀ p ∈ (sweepA (keepB q f nx) l s).2.now, p ∈ s.now) ∧
      (∀ x ∈ l, keepB q f nx x = false → getA x (sweepA (keepB q f nx) l s).2.now = none) ∧ (∀ x, (x ∈ l → keepB q f nx x = true) → getA x (sweepA (keepB q f nx) l s).2.now = getA x s.now))
  | [], s, hoff, hs, ho, hr, _, _ => .inr ⟨rfl, hoff, hs, ho, hr, fun p hp => hp, fun x hx => absurd hx List.not_mem_nil, fun x _ => rfl⟩
  | x :: l, s, hoff, hs, ho, hr, hn, hl => by
    obtain ⟨n1, n2⟩ := List.nodup_cons.1 hn
    unfold sweepA
    by_cases hk : keepB q f nx x = true
    · rw [if_pos hk]
      rcases sweep_step hx hf l s hoff hs ho hr n2 (fun y hy => hl y (List.mem_cons_of_mem _ hy)) with h | ⟨r1, r2, r3, r4, r5, r6, r7, r8⟩
      · exact .inl h
      · refine .inr ⟨r1, r2, r3, r4, r5, r6, fun y hy hky => ?_, fun y hy => r8 y fun h => hy (List.mem_cons_of_mem _ h)⟩
        rcases List.mem_cons.1 hy with rfl | hy
        · rw [hk] at hky; cases hky
        · exact r7 y hy hky
    · rw [if_neg hk]
      obtain ⟨t1, n, hn1, hform⟩ := hl x (by simp)
      have hrm := remove_there hoff t1
      have hop : ∀ F k, May q F f R lo → May q (doA { (⟨2, x, [], 0, []⟩ : AOp) with b := ([] : List UInt8).take k } F) f R lo := fun F k hF => by
        simp only [List.take_nil]
        rw [doA_gone]
        rcases hform with rfl | rfl
        · rw [keepB_rec hn1] at hk
          simp only [Bool.and_eq_true, decide_eq_true_eq, not_and, Nat.not_lt] at hk
          have := (Okop.gone (q := q) (f := f) (R := R) (m := lo) n hn1 (by omega)).keeps hF 0
          simp only [List.take_nil] at this
          rw [doA_gone] at this
          exact this
        · rw [keepB_mark hn1 hf] at hk
          simp only [Bool.and_eq_true, decide_eq_true_eq] at hk
          exact stale_keeps hF hn1 hk
      rw [hrm]
      simp only
      rcases run_cases hoff ⟨2, x, [], 0, []⟩ with ⟨h0, h1, h2, h3, h4⟩ | ⟨h0, h1, h2, h3, h4⟩
      · left
        rw [h0, if_neg (by decide)]
        exact ⟨rfl, h1, fun keep torn => crash_keeps (fun F => May q F f R lo) _ (by rw [h4]; exact ho) (by rw [h3]; exact hs) keep torn⟩
      · rw [h0, if_pos rfl]
        rw [doA_gone] at h2
        generalize s.run ⟨2, x, [], 0, []⟩ = s1 at h1 h2 h3 h4 ⊢
        have hne : ∀ y ∈ l, y ≠ x := fun y hy e => n1 (by rw [← e]; exact hy)
        rcases sweep_step hx hf l s1 h1 (by rw [h3]; exact hs) (fun o h5 => by
            rw [h4] at h5
            rcases List.mem_append.1 h5 with h6 | h6
            · exact ho o h6
            · rw [List.mem_singleton.1 h6]; exact hop) (by rw [h2]; exact rise_del hr) n2 (fun y hy => ⟨by rw [h2, getA_del_other hr (hne y hy)]; exact (hl y (List.mem_cons_of_mem _ hy)).1, (hl y (List.mem_cons_of_mem _ hy)).2⟩) with h | ⟨r1, r2, r3, r4, r5, r6, r7, r8⟩
        · exact .inl h
        · refine .inr ⟨r1, r2, r3, r4, r5, fun p hp => ?_, fun y hy hky => ?_, fun y hy => ?_⟩
          · have := r6 p hp
            rw [h2] at this
            exact (mem_del.1 this).1
          · rcases List.mem_cons.1 hy with rfl | hy
            · rw [r8 y fun h => absurd h n1, h2, getA_del_same]
            · exact r7 y hy hky
          · have hyx : y ≠ x := fun e => by
              have := hy (by rw [e]; simp)
              rw [e] at this
              exact hk this
            rw [r8 y fun h => hy (List.mem_cons_of_mem _ h), h2, getA_del_other hr hyx]

/-- A log that is opened: the files' names, and how many records were read. -/
def openA (q : Nm) (s : St) (f j : Nat) : Nat × St :=
  if (sweepA (keepB q f (f + j)) (s.now.map (·.1)) s).1 = 0 then (sweepA (keepB q f (f + j)) (s.now.map (·.1)) s).2.sync else sweepA (keepB q f (f + j)) (s.now.map (·.1)) s

theorem open_rest {q : Nm} {s : St} {f : Nat} {R : List (List UInt8)} {lo j : Nat} (hoff : s.off = false) (hops : s.ops = []) (hsure : s.sure = s.now) (h : May q s.now f R lo) (hj : j ≤ R.length) (hread : ∀ i t, i < j → R[i]? = some t → readF s.now q (f + i) = some t) (hlast : readF s.now q (f + j) = none) :
    lo ≤ j ∧ (((openA q s f j).1 = 6 ∧ (openA q s f j).2.off = true ∧ ∀ keep torn, May q ((openA q s f j).2.crash keep torn).now f R lo) ∨
    ((openA q s f j).1 = 0 ∧ Rest q (openA q s f j).2 f (R.take j) j ∧ (openA q s f j).2.ops = [])) := by
  have hlim := h.lim
  have hlo := h.lo
  have hl : lo ≤ j := by
    apply Classical.byContradiction
    intro hc
    rw [h.read_has (i := j) (List.getElem?_eq_some_iff.2 ⟨by omega, rfl⟩) (by omega)] at hlast
    cases hlast
  refine ⟨hl, ?_⟩
  have hr := h.rise
  unfold openA
  rcases sweep_step (q := q) (f := f) (nx := f + j) (R := R) (lo := lo) (by omega) (by omega) (s.now.map (·.1)) s hoff (by rw [hsure]; exact h) (by rw [hops]; exact fun o ho => absurd ho List.not_mem_nil) hr (rise_nodup hr) (fun x hx => by
      obtain ⟨p, hp, rfl⟩ := List.mem_map.1 hx
      exact ⟨by rw [getA_of_mem hr (show (p.1, p.2) ∈ s.now from hp)]; rfl, h.own p hp⟩) with ⟨r1, r2, r3⟩ | ⟨r1, r2, r3, r4, r5, r6, r7, r8⟩
  · left
    rw [if_neg (by omega)]
    exact ⟨r1, r2, r3⟩
  · rw [if_pos r1]
    generalize (sweepA (keepB q f (f + j)) (s.now.map (·.1)) s).2 = s1 at r2 r3 r4 r5 r6 r7 r8 ⊢
    rcases sync_cases r2 with ⟨g1, g2, g3, g4, g5⟩ | ⟨g1, g2, g3, g4, g5⟩
    · exact .inl ⟨g1, g2, fun keep torn => crash_keeps (fun F => May q F f R lo) _ (by rw [g5]; exact r4) (by rw [g4]; exact r3) keep torn⟩
    · right
      have el : (R.take j).length = j := by rw [List.length_take]; omega
      have hin : ∀ {x}, x ∉ s.now.map (·.1) → getA x s1.now = none ∧ getA x s.now = none := fun {x} hx => by
        have h1 : getA x s.now = none := getA_none_of fun p hp e => hx (by rw [← e]; exact List.mem_map.2 ⟨p, hp, rfl⟩)
        exact ⟨by rw [r8 x fun hm => absurd hm hx, h1], h1⟩
      have hkept : ∀ {x}, keepB q f (f + j) x = true → getA x s1.now = getA x s.now := fun {x} hx => r8 x fun _ => hx
      have hgone : ∀ {x}, keepB q f (f + j) x = false → getA x s1.now = none := fun {x} hx => by
        by_cases hm : x ∈ s.now.map (·.1)
        · exact r7 x hm hx
        · exact (hin hm).1
      have hM : May q s1.now f (R.take j) j := by
        refine ⟨r5, fun p hp => h.own p (r6 p hp), fun n hn => ?_, fun i t hi hij => ?_, fun i t u hi hu => ?_, fun n h1 h2 => ?_, by omega, by omega, fun t ht => h.long t (List.mem_of_mem_take ht)⟩
        · cases hk : keepB q f (f + j) (markN q n) with
          | true => rw [hkept hk]; exact h.mark n hn
          | false =>
            rw [hgone hk]
            rw [keepB_mark hn (by omega)] at hk
            simp only [Bool.and_eq_false_iff, decide_eq_false_iff_not] at hk
            simp only [Option.isSome_none, Bool.false_eq_true, false_iff]
            omega
        · rw [List.getElem?_take_of_lt hij] at hi
          rw [hkept (by rw [keepB_rec (by omega)]; simp; omega)]
          have h1 := hread i t hij hi
          rcases h.read_one hi with h2 | h2
          · rw [h2] at h1; cases h1
          · exact h2.2
        · have hij := (List.getElem?_eq_some_iff.1 hi).1
          rw [el] at hij
          rw [List.getElem?_take_of_lt hij] at hi
          rw [hkept (by rw [keepB_rec (by omega)]; simp; omega)] at hu
          exact h.part i t u hi hu
        · rw [el] at h1
          exact hgone (by rw [keepB_rec h2]; simp; omega)
      refine ⟨g1, ⟨g2, by rw [g4]; exact hM, by rw [g5]; exact fun o ho => absurd ho List.not_mem_nil, ?_⟩, g5⟩
      rw [g3, el]
      exact hM

end Go.Proofs.YthaggdkfaglgaaaGreatDoor.WalMath

/- Small functions of the log: what the disk refused, the files' names. -/
namespace Go.Proofs.YthaggdkfaglgaaaGreatDoor
set_option maxRecDepth 20000
open Go.RowKit Go.Maps DiskMath WalMath Reg

theorem IsDisk.tight {w : World} {T : Nat → Prop} {d c c' : Nat} {s : St} (h : IsDisk w T d c s) (hc : s.sure.length + s.ops.length ≤ c') (h2 : c' ≤ 2000) : IsDisk w T d c' s := by
  obtain ⟨m1, m2, F1, F2, ws, G, hd, ht⟩ := h.ex
  exact ⟨⟨m1, m2, F1, F2, ws, G, { hd with ok := { hd.ok with few := hc }, small := h2 }, ht⟩, h.lt⟩

/-- What a call gives up with. -/
abbrev gaveW (c : Int) : List PanicEntry := gaveUp c

/-- A call that ends, or gives up. -/
def Must (c : Nat) (e : Ending) : Prop := (c = 0 → e = .returned (.tuple #[])) ∧ (c ≠ 0 → e = .panicked (gaveW c))

theorem must_any (c : Nat) (w : World) : Calls Tryz.prog 83 #[.int .i64 (c : Int)] w fun e w' => Must c e ∧ w' = w :=
  (quit_any c w).mono fun e w' ⟨h1, h2⟩ => ⟨⟨fun h => h1.1 (by omega), fun h => h1.2 (by omega)⟩, h2⟩

theorem nm_cat (a b : Nm) : (⟨a.toArray⟩ : ByteArray) ++ (⟨b.toArray⟩ : ByteArray) = ⟨(a ++ b).toArray⟩ := by
  rw [ByteArray.ext_iff]
  simp

abbrev fv (x : Option Addr) (q : Nm) : Value := .agg #[.pointer x, nm q]
def frontN (q : Nm) : Nm := q ++ [46]
def markF (q : Nm) : Nm := q ++ [46, 102]

theorem file_any (q r : Nm) (hq : q.length ≤ 1000) (hr : r.length ≤ 1000) (w : World) : Calls Tryz.prog 158 #[nm q, nm r] w fun e w' => e = .returned (nm (q ++ [46] ++ r)) ∧ w' = w := by
  obtain ⟨N, hN⟩ : ∃ N : ByteArray, N = ⟨q.toArray⟩ := ⟨_, rfl⟩
  obtain ⟨M, hM⟩ : ∃ M : ByteArray, M = ⟨r.toArray⟩ := ⟨_, rfl⟩
  have e1 : N ++ ⟨#[46]⟩ ++ M = ⟨(q ++ [46] ++ r).toArray⟩ := by rw [hN, hM, ← nm_cat, ← nm_cat]
  have H1 := Lib.hid e1
  have hs : N.size = q.length := by rw [hN]; rfl
  have hs2 : M.size = r.length := by rw [hM]; rfl
  have hs3 : (N ++ ⟨#[46]⟩).size = N.size + 1 := by rw [ByteArray.size_append]; rfl
  have hlt : ¬ 9223372036854775807 < N.size + 1 := by omega
  have hlt2 : ¬ 9223372036854775807 < (N ++ ⟨#[46]⟩).size + M.size := by omega
  have hlt3 : ¬ 9223372036854775807 < N.size + 1 + M.size := by omega
  unfold nm
  rw [← hN, ← hM]
  clear e1 hN hM hs hs2 hs3 hq hr
  go_enter Tryz.func158, Tryz.ntmps158
  go_wp2
  go_ret
  exact ⟨by rw [← H1.out]; rfl, rfl⟩

theorem front_any (x : Option Addr) (q : Nm) (hq : q.length ≤ 1000) (w : World) : Calls Tryz.prog 108 #[fv x q] w fun e w' => e = .returned (nm (frontN q)) ∧ Below w.heap.size w w' := by
  have HF : Hid (∀ W, Calls Tryz.prog 158 #[nm q, .string ⟨#[]⟩] W fun e w' => e = .returned (nm (frontN q)) ∧ w' = W) := Lib.hid fun W => by
    have h := file_any q [] hq (by decide) W
    have e1 : q ++ [46] ++ [] = frontN q := by simp [frontN]
    rw [e1] at h
    exact h
  obtain ⟨N, hN⟩ : ∃ N, nm q = .string N := ⟨_, rfl⟩
  obtain ⟨M, hM⟩ : ∃ M, nm (frontN q) = .string M := ⟨_, rfl⟩
  rw [hN, hM] at HF
  unfold fv
  rw [hN, hM]
  clear hN hM hq
  go_enter Tryz.func108, Tryz.ntmps108
  go_wp2_with fail
  refine (HF.out _).mono ?_
  rintro e w' ⟨rfl, rfl⟩
  go_wp2
  go_ret
  exact ⟨rfl, (Below.refl _ _).alloc (Nat.le_refl _) _⟩

theorem markFront_any (x : Option Addr) (q : Nm) (hq : q.length ≤ 1000) (w : World) : Calls Tryz.prog 110 #[fv x q] w fun e w' => e = .returned (nm (markF q)) ∧ Below w.heap.size w w' := by
  have HF : Hid (∀ W, Calls Tryz.prog 158 #[nm q, .string ⟨#[102]⟩] W fun e w' => e = .returned (nm (markF q)) ∧ w' = W) := Lib.hid fun W => by
    have h := file_any q [102] hq (by decide) W
    have e1 : q ++ [46] ++ [102] = markF q := by simp [markF]
    rw [e1] at h
    exact h
  obtain ⟨N, hN⟩ : ∃ N, nm q = .string N := ⟨_, rfl⟩
  obtain ⟨M, hM⟩ : ∃ M, nm (markF q) = .string M := ⟨_, rfl⟩
  rw [hN, hM] at HF
  unfold fv
  rw [hN, hM]
  clear hN hM hq
  go_enter Tryz.func110, Tryz.ntmps110
  go_wp2_with fail
  refine (HF.out _).mono ?_
  rintro e w' ⟨rfl, rfl⟩
  go_wp2
  go_ret
  exact ⟨rfl, (Below.refl _ _).alloc (Nat.le_refl _) _⟩

theorem called_any (f : Nm) (hf : f.length ≤ 1000) (n : Nat) (hn : n < 100) (w : World) : Calls Tryz.prog 107 #[nm f, .int .u64 n] w fun e w' => e = .returned (nm (f ++ dec n)) ∧ w' = w := by
  have HF := Lib.hid (fun W => format_any n hn W)
  obtain ⟨N, hN⟩ : ∃ N : ByteArray, N = ⟨f.toArray⟩ := ⟨_, rfl⟩
  obtain ⟨D, hD⟩ : ∃ D : ByteArray, D = ⟨(dec n).toArray⟩ := ⟨_, rfl⟩
  have e1 : N ++ D = ⟨(f ++ dec n).toArray⟩ := by rw [hN, hD]; exact nm_cat f (dec n)
  have H1 := Lib.hid e1
  have hs : N.size = f.length := by rw [hN]; rfl
  have hs2 : D.size = (dec n).length := by rw [hD]; rfl
  have hdl := dec_len hn
  have hlt : ¬ 9223372036854775807 < N.size + D.size := by omega
  unfold nm at HF ⊢
  rw [← hN]
  rw [← hD] at HF
  clear e1 hN hD hs hs2 hdl hf
  go_enter Tryz.func107, Tryz.ntmps107
  go_wp2_with fail
  refine (HF.out _).mono ?_
  rintro e w' ⟨rfl, rfl⟩
  go_wp2
  go_ret
  exact ⟨by rw [← H1.out]; rfl, rfl⟩

end Go.Proofs.YthaggdkfaglgaaaGreatDoor

/- attempt: a call's work; what it gives up with. -/
namespace Go.Proofs.YthaggdkfaglgaaaGreatDoor
set_option maxRecDepth 20000
open Go.RowKit

/-- What a call that gave up answers. -/
def said (c : Nat) : Nat := if c = 0 then 0 else if c = 7 then 7 else 6

/-- What a call's work does: it ends, or gives up with c. -/
def Works (w : World) (l : Nat) (Q : Nat → World → Prop) (w1 : World) (e : Ending) (w2 : World) : Prop :=
  ∃ c, Must c e ∧ Q c w2 ∧ w1.heap.size ≤ w2.heap.size ∧ w2.heap[w.heap.size]? = w1.heap[w.heap.size]? ∧ ∃ ls, Blk w2 l 108 ls ∧ ls[4]? = some (.bool false)

/-- How attempt ends; w2: the world behind the work. -/
def WTried (w : World) (l : Nat) (Q : Nat → World → Prop) (e : Ending) (w' : World) : Prop :=
  ∃ c w2, Q c w2 ∧ e = .returned (.int .i64 (said c : Int)) ∧ w.heap.size + 1 ≤ w2.heap.size ∧ OnlyS (fun b => b = w.heap.size ∨ (c ≠ 0 ∧ c ≠ 7 ∧ b = l)) w2 w' ∧
    (c ≠ 0 → c ≠ 7 → ∀ ls, Blk w2 l 108 ls → Blk w' l 108 (ls.setIfInBounds 4 (.bool true)))

set_option maxHeartbeats 1000000 in
set_option maxRecDepth 100000 in
theorem wattempt_any (F : FuncId) (fs cs : Array Value) (hF : ∀ (args : Array Value) (w : World), (callFunc F args).run Tryz.prog w = .ok (.enter F args) w)
    (l : Nat) (w : World) (hl : l < w.heap.size) (Q : Nat → World → Prop)
    (hwork : ∀ w1, Below w.heap.size w w1 → w1.heap.size = w.heap.size + 1 → Calls Tryz.prog F (fs ++ cs) w1 (Works w l Q w1)) :
    Calls Tryz.prog 53 #[.pointer (some ⟨l, 0, none⟩), .func (.func F) fs cs] w (WTried w l Q) := by
  have hC := caught_any F fs cs hF w (fun c w2 => ∃ n : Nat, c = (n : Int) ∧ Q n w2 ∧ ∃ ls, Blk w2 l 108 ls ∧ ls[4]? = some (.bool false)) (fun w1 hb hs => (hwork w1 hb hs).mono fun e w2 ⟨n, hm, hq, h1, h2, ls, h3, h4⟩ => ⟨(n : Int), ⟨fun h => hm.1 (by omega), fun h => hm.2 (by omega)⟩, ⟨n, rfl, hq, ls, h3, h4⟩, h1, h2⟩)
  have HC := Lib.hid hC
  have HL := Lib.hid hl
  clear hwork hC hl
  go_enter Tryz.func53, Tryz.ntmps53
  go_wp2_with fail
  refine HC.out.mono ?_
  rintro e w3 ⟨c, w2, ⟨n, rfl, hq, ls, hb, h4⟩, rfl, hsz, ho⟩
  have hl2 : l < w2.heap.size := hb.lt
  have hb3 : Blk w3 l 108 ls := (ho.block l hl2 (by have := HL.out; omega)).trans hb
  have HQ := Lib.hid hq
  have HB := Lib.hid hb
  have HB3 := Lib.hid hb3
  have HSz := Lib.hid hsz
  have HO := Lib.hid ho
  have c4 : w3.cell? ⟨l, 4, none⟩ = some (.bool false) := by rw [hb3.cell]; exact h4
  have f4 : w3.frozen? ⟨l, 4, none⟩ = false := hb3.frozen 4
  clear hq hb hb3 hsz ho HC hl2 h4
  by_cases h0 : n = 0
  · subst h0
    go_wp2
    go_ret
    exact ⟨0, w2, HQ.out, rfl, HSz.out, HO.out.mono fun k _ hk => .inl hk, fun h => absurd rfl h⟩
  · by_cases h7 : n = 7
    · subst h7
      go_wp2
      go_ret
      exact ⟨7, w2, HQ.out, rfl, HSz.out, HO.out.mono fun k _ hk => .inl hk, fun _ h => absurd rfl h⟩
    · have i0 : ((n : Int) == 0) = false := by
        rw [Bool.eq_false_iff, ne_eq, beq_iff_eq]
        omega
      have i7 : ((n : Int) == 7) = false := by
        rw [Bool.eq_false_iff, ne_eq, beq_iff_eq]
        omega
      have H0 := Lib.hid h0
      have H7 := Lib.hid h7
      clear h0 h7
      go_wp2
      go_ret
      have e6 : said n = 6 := by unfold said; rw [if_neg H0.out, if_neg H7.out]
      refine ⟨n, w2, HQ.out, by rw [e6]; rfl, HSz.out, (HO.out.mono fun k _ hk => .inl hk).setCell (p := ⟨l, 4, none⟩) (fun _ => .inr ⟨H0.out, H7.out, rfl⟩) _, fun _ _ ls' hls' => ?_⟩
      have e1 : ls' = ls := by
        have h5 := HB.out
        unfold Blk at h5 hls'
        rw [h5] at hls'
        simpa using hls'.symm
      rw [e1]
      exact heap_set_same HB3.out _
end Go.Proofs.YthaggdkfaglgaaaGreatDoor

/- frame.Lay. -/
namespace Go.Proofs.YthaggdkfaglgaaaGreatDoor
set_option maxRecDepth 20000
open Go.RowKit FrameMath CrcMath

/-- How Lay ends. -/
def Laid (w : World) (T : List (List UInt8)) (e : Ending) (w' : World) : Prop :=
  Below w.heap.size w w' ∧ (((∀ t ∈ T, t.length ≤ 32768) ∧ ∃ v', e = .returned (.tuple #[v', .int .i64 0]) ∧ Row w' w.heap.size v' (layF T)) ∨ ((∃ t ∈ T, 32768 < t.length) ∧ e = .returned (.tuple #[.slice none 0 0, .int .i64 4])))

def LayCheck (T : List (List UInt8)) (s12 : Value) : Prop := ∃ i : Nat, i ≤ T.length ∧ s12 = .int .i64 i ∧ ∀ t ∈ T.take i, t.length ≤ 32768
def LayAt (w : World) (T : List (List UInt8)) (s6 s22 : Value) (wr : World) : Prop := ∃ i : Nat, i ≤ T.length ∧ s22 = .int .i64 i ∧ Row wr w.heap.size s6 (layF (T.take i)) ∧ Below w.heap.size w wr

theorem take_all {T : List (List UInt8)} {i : Nat} {t : List UInt8} (h : ∀ u ∈ T.take i, u.length ≤ 32768) (hi : T[i]? = some t) (ht : t.length ≤ 32768) : ∀ u ∈ T.take (i + 1), u.length ≤ 32768 := fun u hu => by
  obtain ⟨hlt, rfl⟩ := List.getElem?_eq_some_iff.1 hi
  rw [List.take_succ_eq_append_getElem hlt] at hu
  rcases List.mem_append.1 hu with h1 | h1
  · exact h u h1
  · obtain rfl := List.mem_singleton.1 h1
    exact ht

set_option maxHeartbeats 1000000 in
theorem lay_any (v : Value) (T : List (List UInt8)) (w : World) (hv : Txs w v T) (hn : T.length ≤ 1048576) (ht : Tab w) :
    Calls Tryz.prog 105 #[v] w (Laid w T) := by
  obtain ⟨a, cap, rfl, hcap, hT⟩ := hv
  have HT := Lib.hid ht
  have HA := Lib.hid hT
  obtain ⟨n, hn'⟩ : ∃ n, n = T.length := ⟨_, rfl⟩
  rw [← hn'] at hcap hn ⊢
  have HN := Lib.hid hn'
  clear hT ht hn'
  go_enter Tryz.func105, Tryz.ntmps105
  go_wp2
  go_loop [12] (fun s12 => LayCheck T s12) (fun s12 => n - (intOf s12).toNat)
  case atStart => exact ⟨0, Nat.zero_le _, rfl, fun t h => by simp at h⟩
  case round =>
    obtain ⟨i, hi, rfl, hall⟩ := hrel
    have hin : i ≤ n := by have := HN.out; omega
    have HAll := Lib.hid hall
    clear hi hall
    by_cases hlt : i < n
    · obtain ⟨t, hti⟩ : ∃ t, T[i]? = some t := ⟨T[i]'(by have := HN.out; omega), List.getElem?_eq_getElem _⟩
      obtain ⟨ad, A, C, rfl, hc0, hx0⟩ := HA.out i t hti
      have HTi := Lib.hid hti
      obtain ⟨m, hm⟩ : ∃ m, m = t.length := ⟨_, rfl⟩
      rw [← hm] at hc0
      have HM := Lib.hid hm
      have i0 : (0 : Int) ≤ (i : Int) := Int.natCast_nonneg _
      have i1 : (i : Int) < (n : Int) := by omega
      clear hti hx0 hm
      by_cases hbig : 32768 < m
      · go_wp2
        exact bodyPost_ret (v := .tuple #[.slice none 0 0, .int .i64 4]) (by simp [results, Tryz.results105, go_sem]) rfl ⟨Below.refl _ _, .inr ⟨⟨t, List.mem_of_getElem? HTi.out, by rw [← HM.out]; exact hbig⟩, rfl⟩⟩
      · go_wp2
        go_round
        case rel => exact ⟨i + 1, by have := HN.out; omega, by go_num, take_all HAll.out HTi.out (by rw [← HM.out]; omega)⟩
        case measure => simp [intOf]; omega
    · have hi : i = n := by omega
      have hall : ∀ t ∈ T, t.length ≤ 32768 := fun t h => HAll.out t (by rw [List.take_of_length_le (by have := HN.out; omega)]; exact h)
      have HAll' := Lib.hid hall
      clear hall HAll
      go_wp2
      go_loopw [6, 22] (fun s6 s22 wr => LayAt w T s6 s22 wr) (fun _ s22 _ => n - (intOf s22).toNat)
      case atStart => exact ⟨0, Nat.zero_le _, rfl, World.ownsRow_nil _ _ _ _, Below.refl _ _⟩
      case round =>
        obtain ⟨j, hj, rfl, hrow, hbel⟩ := hrel
        have hjn : j ≤ n := by have := HN.out; omega
        have HR := Lib.hid hrow
        have HB := Lib.hid hbel
        clear hj hrow hbel
        by_cases hjl : j < n
        · obtain ⟨t, hti⟩ : ∃ t, T[j]? = some t := ⟨T[j]'(by have := HN.out; omega), List.getElem?_eq_getElem _⟩
          obtain ⟨ad, A, C, rfl, hc0, hx0⟩ := HA.out j t hti
          have htl := HAll'.out t (List.mem_of_getElem? hti)
          have hlay := layF_le (T.take j) fun u hu => HAll'.out u (List.mem_of_mem_take hu)
          have htk : (T.take j).length ≤ 1048576 := by rw [List.length_take]; omega
          have hlay2 : (layF (T.take j)).length ≤ 1048576 * 32781 := Nat.le_trans hlay (Nat.mul_le_mul_right _ htk)
          have hct : wr.cell? (ad.add j) = some (.slice A t.length C) := by rw [HB.out.cell (World.block_lt_of_cell? w _ hc0)]; exact hc0
          have HX := Lib.hid (hx0.below (Nat.le_refl _) HB.out)
          have HTi := Lib.hid hti
          have HLay := Lib.hid hlay2
          have HTl := Lib.hid htl
          obtain ⟨m, hm⟩ : ∃ m, m = t.length := ⟨_, rfl⟩
          rw [← hm] at hct HX
          have HM := Lib.hid hm
          have i0 : (0 : Int) ≤ (j : Int) := Int.natCast_nonneg _
          have i1 : (j : Int) < (n : Int) := by omega
          have hrl : (rawL t).length ≤ 32777 := by
            have := frameF_le t htl
            rw [frameF, List.length_append, sealF_length, ← rawL_rawF] at this
            omega
          have HRl := Lib.hid hrl
          clear hti hx0 hc0 hm hlay htk hlay2 htl hrl
          go_wp2_with fail
          refine (raw_any _ t wr HX.out (by have := HTl.out; omega)).mono ?_
          rintro e w1 ⟨x, rfl, hr1, hb1⟩
          have HR1 := Lib.hid hr1
          have HB1 := Lib.hid hb1
          have A1 := Lib.hid (grow_apart (w := w) (B := w.heap.size) (Nat.le_trans HB.out.size hb1.size) (HR.out.below hb1) hr1.bys (by have := HLay.out; have := HRl.out; omega) (HB.out.trans (hb1.mono HB.out.size)) wr.heap.size fun k hk => (World.ownsRow.lt HR.out k hk).2)
          clear hr1 hb1
          go_wp2_with (at_builtin; refine wpList_append_by rfl _ _ 27 rfl _ _ rfl rfl _ A1.out ?_; rintro v2 w2 ⟨hr2, hb2, hk2⟩)
          have HR2 := Lib.hid hr2
          have HB2 := Lib.hid hb2
          have HX2 := Lib.hid (hk2 _ _ HR1.out)
          have HT2 := Lib.hid (HT.out.below (Nat.le_refl _) hb2)
          clear hr2 hb2 hk2
          refine (sumOf_any x (rawL t) w2 HX2.out.bys (by have := HRl.out; omega) HT2.out).mono ?_
          rintro e w3 ⟨y, rfl, hr3, hb3⟩
          have A3 := Lib.hid (grow_row (w := w) (B := w.heap.size) (Nat.le_trans HB2.out.size hb3.size) (HR2.out.below hb3) hr3.bys (by rw [sealF_length, List.length_append]; have := HLay.out; have := HRl.out; omega) (HB2.out.trans (hb3.mono HB2.out.size)))
          clear hr3 hb3 A1
          go_wp2_with (at_builtin; refine wpList_append_by rfl _ _ 27 rfl _ _ rfl rfl _ A3.out ?_; rintro v4 w4 ⟨hr4, hb4⟩)
          have HR4 := Lib.hid hr4
          have HB4 := Lib.hid hb4
          clear hr4 hb4 A3
          go_wp2
          go_roundw
          case rel =>
            refine ⟨j + 1, by have := HN.out; omega, by go_num, ?_, HB4.out⟩
            rw [layF_snoc T j t HTi.out]
            have h := HR4.out
            rw [List.append_assoc] at h
            exact h
          case measure => simp [intOf]; omega
        · obtain rfl : j = n := by omega
          obtain ⟨wo, rfl⟩ : ∃ wo : World, wo = wr := ⟨_, rfl⟩
          go_wp2
          exact bodyPost_ret (v := .tuple #[u6, .int .i64 0]) (by simp [results, Tryz.results105, go_sem]) rfl ⟨HB.out, .inl ⟨HAll'.out, _, rfl, by have h := HR.out; rwa [List.take_of_length_le (by have := HN.out; omega)] at h⟩⟩
end Go.Proofs.YthaggdkfaglgaaaGreatDoor

