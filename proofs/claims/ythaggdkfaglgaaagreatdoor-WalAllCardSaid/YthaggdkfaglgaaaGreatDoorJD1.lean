/- Joined: DiskMath, DiskKit, DiskFiles, DiskWrite. -/
import Derived.WideShapes
import Derived.WideAt
import Derived.Sort.KeysCollected
import Derived.Test.YthaggdkfaglgaaaGreatDoorJA1
import Derived.Maps.OwnSet
import Derived.Maps.Ext
import Derived.Maps.AppendAt
import Derived.Lib.AppendZerosOnto
import Derived.Deep.DeepCutAuto
/- Layer 8 as plain functions: files by their names, in the order of these; what operations do to them. -/
namespace Go.Proofs.YthaggdkfaglgaaaGreatDoor.DiskMath
set_option maxRecDepth 20000
open Go

abbrev Nm := List UInt8

def getA {α : Type} (n : Nm) (l : List (Nm × α)) : Option α := (l.find? fun p => p.1 == n).map (·.2)
def delA {α : Type} (n : Nm) (l : List (Nm × α)) : List (Nm × α) := l.filter fun p => !(p.1 == n)
def insA {α : Type} (x : Nm × α) : List (Nm × α) → List (Nm × α)
  | [] => [x]
  | y :: r => if bytesBefore x.1 y.1 then x :: y :: r else y :: insA x r
def putA {α : Type} (n : Nm) (a : α) (l : List (Nm × α)) : List (Nm × α) := insA (n, a) (delA n l)

/-- The names rise. -/
def Rise {α : Type} (l : List (Nm × α)) : Prop := l.Pairwise fun p q => bytesBefore p.1 q.1 = true

section
variable {α β : Type} {n m : Nm} {a b : α} {l : List (Nm × α)} {p : Nm × α}

theorem before_ne {x y : Nm} (h : bytesBefore x y = true) : x ≠ y := by
  rintro rfl
  rw [WideAt.bytes_irrefl] at h
  cases h

theorem mem_ins {x : Nm × α} : p ∈ insA x l ↔ p = x ∨ p ∈ l := by
  induction l with
  | nil => simp [insA]
  | cons y r ih =>
    unfold insA
    split
    · simp
    · simp only [List.mem_cons, ih]
      constructor
      · rintro (h | h | h) <;> simp [h]
      · rintro (h | h | h) <;> simp [h]

theorem mem_del : p ∈ delA n l ↔ p ∈ l ∧ p.1 ≠ n := by simp [delA]

theorem mem_put : p ∈ putA n a l ↔ p = (n, a) ∨ (p ∈ l ∧ p.1 ≠ n) := by rw [putA, mem_ins, mem_del]

theorem getA_mem (h : getA n l = some a) : (n, a) ∈ l := by
  unfold getA at h
  obtain ⟨q, hq, rfl⟩ := Option.map_eq_some_iff.1 h
  have h1 := List.find?_some hq
  simp only [beq_iff_eq] at h1
  subst h1
  exact List.mem_of_find?_eq_some hq

theorem getA_none (h : getA n l = none) : ∀ p ∈ l, p.1 ≠ n := fun p hp e => by
  unfold getA at h
  rw [Option.map_eq_none_iff, List.find?_eq_none] at h
  exact h p hp (by simpa using e)

theorem getA_none_of (h : ∀ p ∈ l, p.1 ≠ n) : getA n l = none := by
  unfold getA
  rw [Option.map_eq_none_iff, List.find?_eq_none]
  exact fun p hp => by simpa using h p hp

theorem getA_of_mem (hr : Rise l) (h : (n, a) ∈ l) : getA n l = some a := by
  cases hg : getA n l with
  | none => exact absurd rfl (getA_none hg _ h)
  | some b =>
    have hb := getA_mem hg
    by_cases he : ((n, a) : Nm × α) = (n, b)
    · cases he; rfl
    · exfalso
      clear hg
      unfold Rise at hr
      induction l with
      | nil => cases h
      | cons y r ih =>
        rw [List.pairwise_cons] at hr
        rcases List.mem_cons.1 h with e1 | h1
        · rcases List.mem_cons.1 hb with e | h2
          · exact he (e1.trans e.symm)
          · exact before_ne (hr.1 _ h2) (by rw [← e1])
        · rcases List.mem_cons.1 hb with e2 | h2
          · exact before_ne (hr.1 _ h1) (by rw [← e2])
          · exact ih hr.2 h1 h2

theorem getA_map (f : α → β) : getA n (l.map fun p => (p.1, f p.2)) = (getA n l).map f := by
  unfold getA
  rw [List.find?_map]
  cases h : l.find? (fun p => p.1 == n) with
  | none =>
    have : l.find? ((fun p : Nm × β => p.1 == n) ∘ fun p => (p.1, f p.2)) = none := h
    rw [this]; rfl
  | some q =>
    have : l.find? ((fun p : Nm × β => p.1 == n) ∘ fun p => (p.1, f p.2)) = some q := h
    rw [this]; rfl

theorem delA_map (f : α → β) : delA n (l.map fun p => (p.1, f p.2)) = (delA n l).map fun p => (p.1, f p.2) := by
  unfold delA
  rw [List.filter_map]
  rfl

theorem insA_map (f : α → β) (x : Nm × α) : insA (x.1, f x.2) (l.map fun p => (p.1, f p.2)) = (insA x l).map fun p => (p.1, f p.2) := by
  induction l with
  | nil => rfl
  | cons y r ih =>
    simp only [List.map_cons, insA]
    split
    · rfl
    · rw [List.map_cons, ih]

theorem putA_map (f : α → β) : putA n (f a) (l.map fun p => (p.1, f p.2)) = (putA n a l).map fun p => (p.1, f p.2) := by
  unfold putA
  rw [delA_map, ← insA_map f (n, a)]

theorem length_ins (x : Nm × α) : (insA x l).length = l.length + 1 := by
  induction l with
  | nil => rfl
  | cons y r ih =>
    unfold insA
    split
    · rfl
    · simp [ih]

theorem length_del : (delA n l).length ≤ l.length := List.length_filter_le _ _

theorem length_put : (putA n a l).length ≤ l.length + 1 := by
  rw [putA, length_ins]
  have := length_del (n := n) (l := l)
  omega

theorem rise_del (h : Rise l) : Rise (delA n l) := List.Pairwise.filter _ h

theorem rise_ins {x : Nm × α} (h : Rise l) (hx : ∀ p ∈ l, p.1 ≠ x.1) : Rise (insA x l) := by
  induction l with
  | nil => simp [insA, Rise]
  | cons y r ih =>
    unfold Rise at h
    rw [List.pairwise_cons] at h
    unfold insA
    split
    · rename_i hb
      unfold Rise
      refine List.pairwise_cons.2 ⟨fun q hq => ?_, List.pairwise_cons.2 h⟩
      rcases List.mem_cons.1 hq with rfl | hq
      · exact hb
      · exact WideShapes.bytes_trans _ _ _ hb (h.1 q hq)
    · rename_i hb
      unfold Rise
      refine List.pairwise_cons.2 ⟨fun q hq => ?_, ih h.2 fun q hq => hx q (List.mem_cons_of_mem _ hq)⟩
      rcases mem_ins.1 hq with rfl | hq
      · rcases WideAt.bytes_total q.1 y.1 (fun e => hx y (by simp) e.symm) with h1 | h1
        · exact absurd h1 hb
        · exact h1
      · exact h.1 q hq

theorem rise_put (h : Rise l) : Rise (putA n a l) := rise_ins (rise_del h) fun _ hp => (mem_del.1 hp).2

theorem rise_map (f : α → β) : Rise (l.map fun p => (p.1, f p.2)) ↔ Rise l := by
  unfold Rise
  rw [List.pairwise_map]

/-- Two rising lists with the same members are one. -/
theorem eq_of_rise : ∀ {l l' : List (Nm × α)}, Rise l → Rise l' → (∀ p, p ∈ l ↔ p ∈ l') → l = l'
  | [], [], _, _, _ => rfl
  | [], b :: s, _, _, h => by have := (h b).2 (by simp); simp at this
  | a :: r, [], _, _, h => by have := (h a).1 (by simp); simp at this
  | a :: r, b :: s, h1, h2, h => by
    obtain ⟨a1, a2⟩ := List.pairwise_cons.1 h1
    obtain ⟨b1, b2⟩ := List.pairwise_cons.1 h2
    have no : ∀ {x y : Nm}, bytesBefore x y = true → bytesBefore y x = true → False := fun h h' => before_ne (WideShapes.bytes_trans _ _ _ h h') rfl
    have hab : a = b := by
      rcases List.mem_cons.1 ((h a).1 (by simp)) with e | ha
      · exact e
      · rcases List.mem_cons.1 ((h b).2 (by simp)) with e | hb
        · exact e.symm
        · exact (no (a1 b hb) (b1 a ha)).elim
    subst hab
    rw [eq_of_rise a2 b2 fun q => ⟨fun hp => by
      rcases List.mem_cons.1 ((h q).1 (by simp [hp])) with e | hp'
      · exact absurd e.symm (fun e' => before_ne (a1 q hp) (by rw [e']))
      · exact hp', fun hp => by
      rcases List.mem_cons.1 ((h q).2 (by simp [hp])) with e | hp'
      · exact absurd e.symm (fun e' => before_ne (b1 q hp) (by rw [e']))
      · exact hp'⟩]

theorem put_self (h : Rise l) (hg : getA n l = some a) : putA n a l = l := by
  refine eq_of_rise (rise_put h) h fun q => ?_
  rw [mem_put]
  constructor
  · rintro (rfl | ⟨h1, _⟩)
    · exact getA_mem hg
    · exact h1
  · intro hp
    by_cases he : q.1 = n
    · left
      have := getA_of_mem h (show (n, q.2) ∈ l by rw [← he]; exact hp)
      rw [hg] at this
      cases this
      exact Prod.ext he rfl
    · exact .inr ⟨hp, he⟩

theorem del_none (hg : getA n l = none) : delA n l = l := by
  unfold delA
  rw [List.filter_eq_self]
  exact fun p hp => by simpa using getA_none hg p hp

theorem getA_put_same (h : Rise l) : getA n (putA n a l) = some a := getA_of_mem (rise_put h) (mem_put.2 (.inl rfl))

theorem getA_put_other (h : Rise l) (hne : m ≠ n) : getA m (putA n a l) = getA m l := by
  cases hg : getA m l with
  | none =>
    refine getA_none_of fun p hp e => ?_
    rcases mem_put.1 hp with rfl | ⟨h1, _⟩
    · exact hne e.symm
    · exact getA_none hg p h1 e
  | some b => exact getA_of_mem (rise_put h) (mem_put.2 (.inr ⟨getA_mem hg, hne⟩))

theorem getA_del_same : getA n (delA n l) = none := getA_none_of fun _ hp => (mem_del.1 hp).2

theorem getA_del_other (h : Rise l) (hne : m ≠ n) : getA m (delA n l) = getA m l := by
  cases hg : getA m l with
  | none => exact getA_none_of fun p hp e => getA_none hg p (mem_del.1 hp).1 e
  | some b => exact getA_of_mem (rise_del h) (mem_del.2 ⟨getA_mem hg, hne⟩)

/-- A relation between any two. -/
theorem pair_ins {R : Nm × α → Nm × α → Prop} {x : Nm × α} (h : l.Pairwise R) (h1 : ∀ p ∈ l, R x p) (h2 : ∀ p ∈ l, R p x) : (insA x l).Pairwise R := by
  induction l with
  | nil => simp [insA]
  | cons y r ih =>
    rw [List.pairwise_cons] at h
    unfold insA
    split
    · exact List.pairwise_cons.2 ⟨h1, List.pairwise_cons.2 h⟩
    · refine List.pairwise_cons.2 ⟨fun q hq => ?_, ih h.2 (fun q hq => h1 q (List.mem_cons_of_mem _ hq)) (fun q hq => h2 q (List.mem_cons_of_mem _ hq))⟩
      rcases mem_ins.1 hq with rfl | hq
      · exact h2 y (by simp)
      · exact h.1 q hq

theorem pair_del {R : Nm × α → Nm × α → Prop} (h : l.Pairwise R) : (delA n l).Pairwise R := List.Pairwise.filter _ h

theorem pair_put {R : Nm × α → Nm × α → Prop} (h : l.Pairwise R) (h1 : ∀ p ∈ l, p.1 ≠ n → R (n, a) p) (h2 : ∀ p ∈ l, p.1 ≠ n → R p (n, a)) : (putA n a l).Pairwise R :=
  pair_ins (pair_del h) (fun p hp => h1 p (mem_del.1 hp).1 (mem_del.1 hp).2) (fun p hp => h2 p (mem_del.1 hp).1 (mem_del.1 hp).2)
end

abbrev Fs := List (Nm × List UInt8)

/-- How many bytes all files have. -/
def tot (l : Fs) : Nat := (l.map fun p => p.2.length).sum

theorem tot_ins (x : Nm × List UInt8) (l : Fs) : tot (insA x l) = x.2.length + tot l := by
  induction l with
  | nil => simp [insA, tot]
  | cons y r ih =>
    unfold insA
    split
    · simp [tot]
    · unfold tot at ih ⊢
      rw [List.map_cons, List.sum_cons, ih, List.map_cons, List.sum_cons]
      omega

theorem tot_del (n : Nm) (l : Fs) (h : Rise l) : tot (delA n l) + ((getA n l).getD []).length = tot l := by
  induction l with
  | nil => simp [delA, tot, getA]
  | cons y r ih =>
    unfold Rise at h
    rw [List.pairwise_cons] at h
    have ih := ih h.2
    by_cases he : y.1 = n
    · have hn : getA n r = none := getA_none_of fun p hp e => before_ne (h.1 p hp) (by rw [he, e])
      have e1 : delA n (y :: r) = delA n r := by simp [delA, he]
      have e2 : getA n (y :: r) = some y.2 := by simp [getA, he]
      rw [e1, e2]
      rw [hn] at ih
      simp [tot] at ih ⊢
      omega
    · have e1 : delA n (y :: r) = y :: delA n r := by simp [delA, he]
      have e2 : getA n (y :: r) = getA n r := by simp [getA, he]
      rw [e1, e2]
      simp only [tot, List.map_cons, List.sum_cons] at ih ⊢
      omega

theorem tot_put (n : Nm) (t : List UInt8) (l : Fs) (h : Rise l) : tot (putA n t l) + ((getA n l).getD []).length = tot l + t.length := by
  rw [putA, tot_ins]
  have := tot_del n l h
  simp only
  omega

theorem tot_get {n : Nm} {t : List UInt8} {l : Fs} (h : (n, t) ∈ l) : t.length ≤ tot l := by
  induction l with
  | nil => cases h
  | cons y r ih =>
    simp only [tot, List.map_cons, List.sum_cons] at ih ⊢
    rcases List.mem_cons.1 h with rfl | h
    · simp
    · have := ih h
      omega

theorem tot_le {l : Fs} {k : Nat} (h : ∀ p ∈ l, p.2.length ≤ k) : tot l ≤ l.length * k := by
  induction l with
  | nil => simp [tot]
  | cons y r ih =>
    have h1 := ih fun p hp => h p (List.mem_cons_of_mem _ hp)
    have h2 := h y (by simp)
    simp only [tot, List.map_cons, List.sum_cons, List.length_cons, Nat.add_mul] at h1 ⊢
    omega

/-- Bytes laid over a text from a place on. -/
def layT (t : List UInt8) (a : Nat) (b : List UInt8) : List UInt8 := if b = [] then t else (t ++ List.replicate (a - t.length) 0).take a ++ b ++ t.drop (a + b.length)

theorem layT_length (t : List UInt8) (a : Nat) (b : List UInt8) (h : b ≠ []) : (layT t a b).length = max t.length (a + b.length) := by
  unfold layT
  rw [if_neg h]
  simp only [List.length_append, List.length_take, List.length_replicate, List.length_drop]
  omega

/-- An operation: 0 a write, 1 a cut, 2 a remove, 3 a rename. -/
structure AOp where
  k : Nat
  n : Nm
  q : Nm
  a : Nat
  b : List UInt8

def doA (o : AOp) (l : Fs) : Fs :=
  if o.k = 0 then putA o.n (layT ((getA o.n l).getD []) o.a o.b) l
  else match getA o.n l with
    | none => l
    | some t => if o.k = 1 then putA o.n (t.take o.a) l else if o.k = 2 then delA o.n l else putA o.q t (delA o.n l)

theorem doA_cut {l : Fs} {n q : Nm} {a : Nat} {b t : List UInt8} (h : getA n l = some t) : doA ⟨1, n, q, a, b⟩ l = putA n (t.take a) l := by simp [doA, h]
theorem doA_remove {l : Fs} {n q : Nm} {a : Nat} {b t : List UInt8} (h : getA n l = some t) : doA ⟨2, n, q, a, b⟩ l = delA n l := by simp [doA, h]
theorem doA_rename {l : Fs} {n q : Nm} {a : Nat} {b t : List UInt8} (h : getA n l = some t) : doA ⟨3, n, q, a, b⟩ l = putA q t (delA n l) := by simp [doA, h]

def doAllA (os : List AOp) (l : Fs) : Fs := os.foldl (fun l o => doA o l) l

theorem doAllA_snoc (os : List AOp) (o : AOp) (l : Fs) : doAllA (os ++ [o]) l = doA o (doAllA os l) := by simp [doAllA]

theorem rise_do (o : AOp) (l : Fs) (h : Rise l) : Rise (doA o l) := by
  unfold doA
  split
  · exact rise_put h
  · split
    · exact h
    · split
      · exact rise_put h
      · split
        · exact rise_del h
        · exact rise_put (rise_del h)

theorem length_do (o : AOp) (l : Fs) : (doA o l).length ≤ l.length + 1 := by
  unfold doA
  split
  · exact length_put
  · split
    · omega
    · split
      · exact length_put
      · split
        · exact Nat.le_succ_of_le length_del
        · have h1 := length_put (n := o.q) (a := by assumption) (l := delA o.n l)
          have h2 := length_del (n := o.n) (l := l)
          omega

/-- How long names and texts are. -/
def Fit (l : Fs) : Prop := ∀ p ∈ l, p.1.length ≤ 16 ∧ p.2.length ≤ 8388608

/-- What waits: names, places and texts within what may be. -/
def FitO (o : AOp) : Prop := o.k ≤ 3 ∧ o.n.length ≤ 16 ∧ o.q.length ≤ 16 ∧ o.a ≤ 8388608 ∧ (o.k = 0 → o.a ≤ 1048576) ∧ o.b.length ≤ 4194304 ∧ (o.k ≠ 0 → o.b = []) ∧ (1 < o.k → o.a = 0)

theorem fit_put {l : Fs} {n : Nm} {t : List UInt8} (h : Fit l) (hn : n.length ≤ 16) (ht : t.length ≤ 8388608) : Fit (putA n t l) := fun p hp => by
  rcases mem_put.1 hp with rfl | ⟨h1, _⟩
  · exact ⟨hn, ht⟩
  · exact h p h1

theorem fit_get {l : Fs} (h : Fit l) (n : Nm) : ((getA n l).getD []).length ≤ 8388608 := by
  cases hg : getA n l with
  | none => simp
  | some t => exact (h _ (getA_mem hg)).2

theorem fit_lay {l : Fs} (h : Fit l) (n : Nm) {a : Nat} {b : List UInt8} (ha : a ≤ 1048576) (hb : b.length ≤ 4194304) : (layT ((getA n l).getD []) a b).length ≤ 8388608 := by
  have h1 := fit_get h n
  by_cases hb0 : b = []
  · unfold layT
    rw [if_pos hb0]
    exact h1
  · rw [layT_length _ _ _ hb0]
    omega

theorem fit_do (o : AOp) (l : Fs) (h : Fit l) (ho : FitO o) : Fit (doA o l) := by
  obtain ⟨h0, h1, h2, h3, h4, h5, h6, h7⟩ := ho
  unfold doA
  split
  · rename_i hk
    exact fit_put h h1 (fit_lay h _ (h4 hk) h5)
  · split
    · exact h
    · rename_i t hg
      have ht := (h _ (getA_mem hg)).2
      split
      · exact fit_put h h1 (by rw [List.length_take]; simp only at ht; omega)
      · split
        · exact fun p hp => h p (mem_del.1 hp).1
        · exact fit_put (fun p hp => h p (mem_del.1 hp).1) h2 ht

theorem rise_doAll (os : List AOp) : ∀ (l : Fs), Rise l → Rise (doAllA os l) := by
  induction os with
  | nil => exact fun l h => h
  | cons o os ih => exact fun l h => ih _ (rise_do o l h)

theorem length_doAll (os : List AOp) : ∀ (l : Fs), (doAllA os l).length ≤ l.length + os.length := by
  induction os with
  | nil => exact fun l => Nat.le_refl _
  | cons o os ih =>
    intro l
    have h1 := ih (doA o l)
    have h2 := length_do o l
    simp only [doAllA, List.foldl_cons, List.length_cons] at h1 ⊢
    omega

theorem fit_doAll (os : List AOp) : ∀ (l : Fs), Fit l → (∀ o ∈ os, FitO o) → Fit (doAllA os l) := by
  induction os with
  | nil => exact fun l h _ => h
  | cons o os ih => exact fun l h ho => ih _ (fit_do o l h (ho o (by simp))) fun o' h' => ho o' (List.mem_cons_of_mem _ h')

/-- A byte that a name may have. -/
def okC (c : UInt8) : Bool := (97 ≤ c.toNat && c.toNat ≤ 122) || (48 ≤ c.toNat && c.toNat ≤ 57) || c.toNat == 46
def named (n : Nm) : Bool := 1 ≤ n.length && n.length ≤ 16 && n.all okC

/-- A disk. -/
structure St where
  now : Fs
  sure : Fs
  ops : List AOp
  room : Int
  fuse : Int
  off : Bool

def St.new (room : Int) : St := ⟨[], [], [], room, -1, false⟩

/-- The fuse burns: ErrLost or not. -/
def St.burnt (s : St) : Bool := s.fuse == 0
def St.burn (s : St) : St := if s.fuse = 0 then { s with off := true } else if 0 < s.fuse then { s with fuse := s.fuse - 1 } else s

/-- An operation is done, or the fuse is burnt. -/
def St.run (s : St) (o : AOp) : St := if s.fuse = 0 then s.burn else { s.burn with now := doA o s.now, ops := s.ops ++ [o] }
def St.said (s : St) : Nat := if s.fuse = 0 then 6 else 0

def used (l : Fs) (n : Nm) (a k : Nat) : Nat := if k = 0 then tot l else tot l - ((getA n l).getD []).length + max ((getA n l).getD []).length (a + k)

/-- What a call answers, and what is then. -/
def St.write (s : St) (n : Nm) (a : Int) (b : List UInt8) : Nat × St :=
  if s.off then (6, s) else if !named n then (1, s) else if a < 0 ∨ 1048576 < a then (9, s)
  else if max s.room 0 < (used s.now n a.toNat b.length : Int) then (7, s) else (s.said, s.run ⟨0, n, [], a.toNat, b⟩)
def St.cut (s : St) (n : Nm) (k : Int) : Nat × St :=
  if s.off then (6, s) else match getA n s.now with
    | none => (8, s)
    | some t => if k < 0 ∨ (t.length : Int) < k then (9, s) else (s.said, s.run ⟨1, n, [], k.toNat, []⟩)
def St.remove (s : St) (n : Nm) : Nat × St :=
  if s.off then (6, s) else match getA n s.now with
    | none => (8, s)
    | some _ => (s.said, s.run ⟨2, n, [], 0, []⟩)
def St.rename (s : St) (n m : Nm) : Nat × St :=
  if s.off then (6, s) else match getA n s.now with
    | none => (8, s)
    | some _ => if !named m then (1, s) else (s.said, s.run ⟨3, n, m, 0, []⟩)
def St.sync (s : St) : Nat × St :=
  if s.off then (6, s) else if s.fuse = 0 then (6, s.burn) else (0, { s.burn with sure := s.now, ops := [] })

def St.read (s : St) (n : Nm) : Nat × List UInt8 :=
  if s.off then (6, []) else match getA n s.now with
    | none => (8, [])
    | some t => (0, t)

/-- What is kept: those whose place is true, the last of them in part. -/
def keptA : List AOp → List Bool → List AOp
  | [], _ => []
  | _, [] => []
  | o :: os, k :: ks => if k then o :: keptA os ks else keptA os ks
def tornA (torn : Int) : List AOp → List AOp
  | [] => []
  | [o] => [{ o with b := o.b.take (max torn 0).toNat }]
  | o :: o' :: os => o :: tornA torn (o' :: os)
def St.crash (s : St) (keep : List Bool) (torn : Int) : St :=
  let l := doAllA (tornA torn (keptA s.ops keep)) s.sure
  ⟨l, l, [], s.room, -1, false⟩

/-- What holds of a disk between calls; c: no more than so many operations, since it was made. -/
structure Ok (c : Nat) (s : St) : Prop where
  now : s.now = doAllA s.ops s.sure
  rise : Rise s.sure
  fit : Fit s.sure
  fitO : ∀ o ∈ s.ops, FitO o
  few : s.sure.length + s.ops.length ≤ c

theorem Ok.riseN {c : Nat} {s : St} (h : Ok c s) : Rise s.now := by rw [h.now]; exact rise_doAll _ _ h.rise
theorem Ok.fitN {c : Nat} {s : St} (h : Ok c s) : Fit s.now := by rw [h.now]; exact fit_doAll _ _ h.fit h.fitO
theorem Ok.fewN {c : Nat} {s : St} (h : Ok c s) : s.now.length ≤ c := by
  rw [h.now]
  exact Nat.le_trans (length_doAll _ _) h.few

end Go.Proofs.YthaggdkfaglgaaaGreatDoor.DiskMath

/- Files as a map of the program's memory holds them: what they are, what a look-up, a store, a removal gives; rows of bytes that are laid over and made longer. -/
namespace Go.Proofs.YthaggdkfaglgaaaGreatDoor
set_option maxRecDepth 20000
open Go.RowKit Go.Maps DiskMath

/-- A name as a value. -/
def nm (n : List UInt8) : Value := .string ⟨n.toArray⟩

theorem nm_of (s : ByteArray) : Value.string s = nm s.data.toList := by simp [nm]

abbrev DV := DataW Value
def tokR (v : Value) : Option (DV × List MemPlace) := some (.held v, [])

theorem klaw : Keyed Tryz.prog 9 := string_keyed Tryz.underlying9

theorem keyOf_nm {n : List UInt8} (h : n.length ≤ 9223372036854775807) : keyOf Tryz.prog 9 (nm n) = some (.string n) := by
  have := WideMaps.keyOf_string_mk (P := Tryz.prog) Tryz.underlying9 (s := ⟨n.toArray⟩) (by show n.toArray.size ≤ _; simp; unfold maxLen; omega)
  simpa [nm] using this

/-- Files with the slices in which their bytes lie. -/
abbrev Gf := List (Nm × (Value × List UInt8))
def pr (F : Gf) : Fs := F.map fun p => (p.1, p.2.2)
def encD (F : Gf) : DV := .map (F.map fun p => (Lit.string p.1, DataW.held p.2.1))

/-- Two slices of unlike blocks. -/
def Apart (u v : Value) : Prop := ∀ k, u.ownBlock = some k → v.ownBlock ≠ some k
theorem Apart.symm {u v : Value} (h : Apart u v) : Apart v u := fun k hk e => h k e hk

/-- The map at block m holds the files F; of the file of name X, if that is one, its bytes are not told. -/
structure KeepBut (X : Option Nm) (w : World) (m : Nat) (F : Gf) : Prop where
  map : w.ownsMap Tryz.prog 9 tokR m F.length (encD F)
  rowX : ∀ p ∈ F, X ≠ some p.1 → Row w 0 p.2.1 p.2.2
  apart : F.Pairwise fun p q => Apart p.2.1 q.2.1

abbrev Keep : World → Nat → Gf → Prop := KeepBut none

theorem KeepBut.row {w : World} {m : Nat} {F : Gf} (h : Keep w m F) : ∀ p ∈ F, Row w 0 p.2.1 p.2.2 := fun p hp => h.rowX p hp (by simp)
theorem KeepBut.but {w : World} {m : Nat} {F : Gf} (h : Keep w m F) (X : Option Nm) : KeepBut X w m F := ⟨h.map, fun p hp _ => h.row p hp, h.apart⟩

/-- Each slice is as long as its text. -/
def Long (F : Gf) : Prop := ∀ p ∈ F, ∃ a c, p.2.1 = .slice a p.2.2.length c

/-- The blocks in which the files' bytes lie. -/
def foot (F : Gf) (k : Nat) : Prop := ∃ p ∈ F, p.2.1.ownBlock = some k

theorem encD_put (F : Gf) (n : Nm) (v : Value) (t : List UInt8) : (encD F).put (.string n) (.held v) = encD (putA n (v, t) F) := by
  show DataW.map (DataW.insert (Lit.string n, DataW.held v) ((F.map fun p => (Lit.string p.1, DataW.held p.2.1)).filter fun p => !p.1.sameKey (.string n))) = _
  have e1 : ((F.map fun p => (Lit.string p.1, (DataW.held p.2.1 : DV))).filter fun p => !p.1.sameKey (.string n)) = (delA n F).map fun p => (Lit.string p.1, (DataW.held p.2.1 : DV)) := by
    rw [List.filter_map]
    rfl
  rw [e1]
  unfold encD putA
  congr 1
  generalize delA n F = l
  induction l with
  | nil => rfl
  | cons y r ih =>
    by_cases hb : bytesBefore n y.1 = true
    · simp [DataW.insert, insA, Lit.before, hb]
    · simp [DataW.insert, insA, Lit.before, hb, ih]

theorem encD_del (F : Gf) (n : Nm) : (encD F).del (.string n) = encD (delA n F) := by
  show DataW.map ((F.map fun p => (Lit.string p.1, (DataW.held p.2.1 : DV))).filter fun p => !p.1.sameKey (.string n)) = _
  rw [List.filter_map]
  rfl

theorem encD_has (F : Gf) (n : Nm) : Maps.has (encD F) (.string n) = (getA n F).isSome := by
  rw [encD, Maps.has_eq, List.any_map]
  unfold getA
  rw [Option.isSome_map, List.isSome_find?]
  rfl

theorem encD_at (F : Gf) (n : Nm) (z : DV) : (encD F).atKey (.string n) z = ((getA n F).map fun x => DataW.held x.1).getD z := by
  unfold encD DataW.atKey getA
  simp only
  rw [List.find?_map]
  have hf : F.find? ((fun p : Lit × DV => p.1.sameKey (Lit.string n)) ∘ fun p => (Lit.string p.1, DataW.held p.2.1)) = F.find? (fun p => p.1 == n) := rfl
  rw [hf]
  cases F.find? (fun p => p.1 == n) <;> rfl

theorem encD_size (F : Gf) : Maps.size (encD F) = F.length := by
  rw [encD, Maps.size_eq, List.length_map]

theorem map_sized {w : World} {m N : Nat} {F : Gf} (h : w.ownsMap Tryz.prog 9 tokR m N (encD F)) : w.ownsMap Tryz.prog 9 tokR m F.length (encD F) := by
  obtain ⟨es, clock, hb, Ft, _, hD⟩ := h
  refine ⟨es, clock, hb, Ft, ?_, hD⟩
  have h1 : Maps.size (encD F) = es.size := by rw [hD]; simp [Maps.size, length_sorted]
  rw [encD_size] at h1
  omega

theorem map_same {w w' : World} {m N : Nat} {D : DV} (h : w.ownsMap Tryz.prog 9 tokR m N D) (hm : w'.heap[m]? = w.heap[m]?) : w'.ownsMap Tryz.prog 9 tokR m N D := by
  obtain ⟨es, clock, hb, rest⟩ := h
  exact ⟨es, clock, hm.trans hb, rest⟩

theorem Row.same {w w' : World} {B : Nat} {v : Value} {t : List UInt8} (h : Row w B v t) (hk : ∀ k, v.ownBlock = some k → w'.heap[k]? = w.heap[k]?) : Row w' B v t := by
  refine ⟨h.1, ?_⟩
  rcases h.2 with h0 | ⟨g, cap, cur, h1, h2, h3, h4⟩
  · exact .inl h0
  · subst h1
    exact .inr ⟨g, cap, cur, rfl, h2, by rw [hk g rfl]; exact h3, h4⟩

theorem Row.lt {w : World} {B : Nat} {v : Value} {t : List UInt8} (h : Row w B v t) {k : Nat} (hk : v.ownBlock = some k) : B ≤ k ∧ k < w.heap.size := World.ownsRow.lt h k hk

/-- What lies in a row's block. -/
theorem Row.block {w : World} {B : Nat} {v : Value} {t : List UInt8} (h : Row w B v t) {k : Nat} (hk : v.ownBlock = some k) : ∃ cur, w.heap[k]? = some (.cells cur 5 (0, 0)) := by
  rcases h.2 with ⟨h0, _⟩ | ⟨g, cap, cur, h1, h2, h3, h4⟩
  · subst h0; simp [Value.ownBlock] at hk
  · subst h1
    simp [Value.ownBlock] at hk
    subst hk
    exact ⟨cur, h3⟩

theorem KeepBut.sameX {X : Option Nm} {w w' : World} {m : Nat} {F : Gf} (h : KeepBut X w m F) (hm : w'.heap[m]? = w.heap[m]?) (hf : ∀ p ∈ F, X ≠ some p.1 → ∀ k, p.2.1.ownBlock = some k → w'.heap[k]? = w.heap[k]?) : KeepBut X w' m F :=
  ⟨map_same h.map hm, fun p hp hX => (h.rowX p hp hX).same fun k hk => hf p hp hX k hk, h.apart⟩

theorem KeepBut.same {X : Option Nm} {w w' : World} {m : Nat} {F : Gf} (h : KeepBut X w m F) (hm : w'.heap[m]? = w.heap[m]?) (hf : ∀ k, foot F k → w'.heap[k]? = w.heap[k]?) : KeepBut X w' m F :=
  h.sameX hm fun p hp _ k hk => hf k ⟨p, hp, hk⟩

theorem KeepBut.foot_lt {w : World} {m : Nat} {F : Gf} (h : Keep w m F) {k : Nat} (hk : foot F k) : k < w.heap.size := by
  obtain ⟨p, hp, h1⟩ := hk
  exact ((h.row p hp).lt h1).2

theorem KeepBut.lt {X : Option Nm} {w : World} {m : Nat} {F : Gf} (h : KeepBut X w m F) : m < w.heap.size := h.map.lt

/-- The map's block is no row's. -/
theorem KeepBut.ne {X : Option Nm} {w : World} {m : Nat} {F : Gf} (h : KeepBut X w m F) {v : Value} {B : Nat} {t : List UInt8} (hr : Row w B v t) : v.ownBlock ≠ some m := fun e => by
  obtain ⟨cur, hc⟩ := hr.block e
  obtain ⟨es, clock, hb, _⟩ := h.map
  rw [hc] at hb
  cases hb

theorem KeepBut.ne_blk {X : Option Nm} {w : World} {m d : Nat} {F : Gf} {t : TypeId} {cs : Array Value} (h : KeepBut X w m F) (hb : Blk w d t cs) : m ≠ d := fun e => by
  subst e
  obtain ⟨es, clock, hm, _⟩ := h.map
  unfold Blk at hb
  rw [hm] at hb
  cases hb

theorem row_ne_blk {w : World} {d B : Nat} {v : Value} {l : List UInt8} {t : TypeId} {cs : Array Value} (h : Row w B v l) (hb : Blk w d t cs) (ht : t ≠ 5) : v.ownBlock ≠ some d := fun e => by
  obtain ⟨cur, hc⟩ := h.block e
  unfold Blk at hb
  rw [hc] at hb
  simp at hb
  exact ht hb.2.symm

theorem KeepBut.below {w w' : World} {m : Nat} {F : Gf} (h : Keep w m F) (hb : Below w.heap.size w w') : Keep w' m F := h.same (hb.block m h.lt) fun k hk => hb.block k (h.foot_lt hk)

theorem KeepBut.rise {X : Option Nm} {w : World} {m : Nat} {F : Gf} (h : KeepBut X w m F) : Rise F := by
  obtain ⟨es, e, h1, _⟩ := h.map.canon klaw
  have e2 : F.map (fun p => (Lit.string p.1, (DataW.held p.2.1 : DV))) = es := by
    unfold encD at e
    injection e
  rw [← e2, List.pairwise_map] at h1
  exact h1

theorem KeepBut.riseP {X : Option Nm} {w : World} {m : Nat} {F : Gf} (h : KeepBut X w m F) : Rise (pr F) := (rise_map (fun x : Value × List UInt8 => x.2)).2 h.rise

theorem pr_get (F : Gf) (n : Nm) : getA n (pr F) = (getA n F).map (·.2) := getA_map _
theorem pr_put (F : Gf) (n : Nm) (v : Value) (t : List UInt8) : pr (putA n (v, t) F) = putA n t (pr F) := (putA_map (fun x : Value × List UInt8 => x.2) (a := (v, t))).symm
theorem pr_del (F : Gf) (n : Nm) : pr (delA n F) = delA n (pr F) := (delA_map (fun x : Value × List UInt8 => x.2)).symm
theorem pr_length (F : Gf) : (pr F).length = F.length := by simp [pr]

/-- The slice of a file; nil of none. -/
def vOf (n : Nm) (F : Gf) : Value := ((getA n F).map (·.1)).getD (.slice none 0 0)

theorem KeepBut.long {w : World} {m : Nat} {F : Gf} (h : Keep w m F) : Long F := fun p hp => slice_of_row (h.row p hp)

theorem vOf_long {F : Gf} (h : Long F) (n : Nm) : ∃ a c, vOf n F = .slice a ((getA n (pr F)).getD []).length c := by
  rw [pr_get]
  unfold vOf
  cases hg : getA n F with
  | none => exact ⟨none, 0, rfl⟩
  | some x => exact h _ (getA_mem hg)

theorem vOf_row {w : World} {m : Nat} {F : Gf} (h : Keep w m F) (n : Nm) : Row w 0 (vOf n F) ((getA n (pr F)).getD []) := by
  rw [pr_get]
  unfold vOf
  cases hg : getA n F with
  | none => exact World.ownsRow_nil _ _ _ _
  | some x => exact h.row _ (getA_mem hg)

theorem vOf_foot {n : Nm} {F : Gf} {k : Nat} (h : (vOf n F).ownBlock = some k) : foot F k := by
  unfold vOf at h
  cases hg : getA n F with
  | none => rw [hg] at h; simp [Value.ownBlock] at h
  | some x => rw [hg] at h; exact ⟨_, getA_mem hg, h⟩

/-- The others lie elsewhere. -/
theorem vOf_apart {X : Option Nm} {w : World} {m : Nat} {F : Gf} (h : KeepBut X w m F) (n : Nm) : ∀ p ∈ F, p.1 ≠ n → Apart (vOf n F) p.2.1 := by
  intro p hp hne
  unfold vOf
  cases hg : getA n F with
  | none => intro k hk; simp [Value.ownBlock] at hk
  | some x =>
    have hm := getA_mem hg
    have hall : ∀ {l : Gf}, l.Pairwise (fun p q => Apart p.2.1 q.2.1) → ∀ a ∈ l, ∀ b ∈ l, a ≠ b → Apart a.2.1 b.2.1 := by
      intro l hl
      induction l with
      | nil => intro a ha; cases ha
      | cons y r ih =>
        rw [List.pairwise_cons] at hl
        intro a ha b hb hab
        rcases List.mem_cons.1 ha with e1 | h1
        · rcases List.mem_cons.1 hb with e2 | h2
          · exact absurd (e1.trans e2.symm) hab
          · rw [e1]; exact hl.1 b h2
        · rcases List.mem_cons.1 hb with e2 | h2
          · rw [e2]; exact (hl.1 a h1).symm
          · exact ih hl.2 a h1 b h2 hab
    exact hall h.apart _ hm p hp fun e => hne (by rw [← e])

theorem zero_slice (w : World) : (zeroValue 27).run Tryz.prog w = .ok (.slice none 0 0) w := by kernel_rfl

/-- 'm[n]'. -/
theorem look {X : Option Nm} {w : World} {m : Nat} {F : Gf} (h : KeepBut X w m F) {n : Nm} (hn : n.length ≤ 9223372036854775807) : (Instr.lookup 93 (.map (some m)) (nm n) false).run Tryz.prog w = .ok (vOf n F) w := by
  obtain ⟨v, ps, hr, hv⟩ := h.map.lookup klaw Tryz.underlying93 (zero_slice w) (zd := .held (.slice none 0 0)) (zp := []) rfl (keyOf_nm hn)
  rw [hr]
  rw [encD_at] at hv
  unfold tokR at hv
  simp only [Option.some.injEq, Prod.mk.injEq] at hv
  have e : v = vOf n F := by
    unfold vOf
    have h1 := hv.1
    cases hg : getA n F with
    | none => rw [hg] at h1; simpa using h1
    | some x => rw [hg] at h1; simpa using h1
  rw [e]

/-- 'v, ok := m[n]'. -/
theorem look_ok {X : Option Nm} {w : World} {m : Nat} {F : Gf} (h : KeepBut X w m F) {n : Nm} (hn : n.length ≤ 9223372036854775807) : (Instr.lookup 93 (.map (some m)) (nm n) true).run Tryz.prog w = .ok (.tuple #[vOf n F, .bool (getA n F).isSome]) w := by
  obtain ⟨v, ps, hr, hv⟩ := h.map.look_ok klaw Tryz.underlying93 (zero_slice w) (zd := .held (.slice none 0 0)) (zp := []) rfl (keyOf_nm hn)
  rw [hr]
  rw [encD_at] at hv
  unfold tokR at hv
  simp only [Option.some.injEq, Prod.mk.injEq] at hv
  have e : v = vOf n F := by
    unfold vOf
    have h1 := hv.1
    cases hg : getA n F with
    | none => rw [hg] at h1; simpa using h1
    | some x => rw [hg] at h1; simpa using h1
  rw [e, encD_has]

/-- 'm[n] = v'. -/
theorem store {w : World} {m : Nat} {F : Gf} {n : Nm} (h : KeepBut (some n) w m F) (hn : n.length ≤ 9223372036854775807) (hc : F.length ≤ 1048576) {v : Value} {t : List UInt8} (hv : Row w 0 v t) (ha : ∀ p ∈ F, p.1 ≠ n → Apart v p.2.1) :
    ∃ w', (Instr.mapUpdate 93 (.map (some m)) (nm n) v).run Tryz.prog w = .ok () w' ∧ (Keep w' m (putA n (v, t) F) ∧ OnlyS (fun k => k = m) w w') := by
  obtain ⟨w', hr, h1, h2⟩ := h.map.store klaw Tryz.underlying93 (by unfold maxLen; omega) (keyOf_nm hn) (show tokR v = some (.held v, []) from rfl)
  rw [encD_put F n v t] at h1
  have hg := h2.grown
  have hrow : ∀ (u : Value) (s : List UInt8), Row w 0 u s → Row w' 0 u s := fun u s hu => hu.same fun k hk => hg.block k (hu.lt hk).2 fun e => h.ne hu (by rw [hk, e])
  refine ⟨w', hr, ⟨map_sized h1, fun p hp _ => ?_, ?_⟩, ⟨hg.os, hg.tape, hg.output, hg.size, fun k hk hne => hg.block k hk fun e => hne (by simpa using e)⟩⟩
  · rcases mem_put.1 hp with rfl | ⟨hp, hne⟩
    · exact hrow _ _ hv
    · exact hrow _ _ (h.rowX p hp fun e => hne (Option.some.inj e).symm)
  · exact pair_put h.apart (fun p hp hne => ha p hp hne) fun p hp hne => (ha p hp hne).symm

/-- 'delete(m, n)'. -/
theorem drop {w : World} {m : Nat} {F : Gf} (h : Keep w m F) {n : Nm} (hn : n.length ≤ 9223372036854775807) (ty : TypeId) :
    ∃ w', (Builtin.delete_ #[93, 9] ty #[.map (some m), nm n]).run Tryz.prog w = .ok (.tuple #[]) w' ∧ (Keep w' m (delA n F) ∧ OnlyS (fun k => k = m) w w') := by
  obtain ⟨w', hr, h1, h2⟩ := h.map.drop klaw Tryz.underlying93 (keyOf_nm hn) ty
  rw [encD_del] at h1
  have hg := h2.grown
  have hrow : ∀ (u : Value) (s : List UInt8), Row w 0 u s → Row w' 0 u s := fun u s hu => hu.same fun k hk => hg.block k (hu.lt hk).2 fun e => h.ne hu (by rw [hk, e])
  exact ⟨w', hr, ⟨map_sized h1, fun p hp _ => hrow _ _ (h.row p (mem_del.1 hp).1), pair_del h.apart⟩, ⟨hg.os, hg.tape, hg.output, hg.size, fun k hk hne => hg.block k hk fun e => hne (by simpa using e)⟩⟩

/-! ### rows that grow and are laid over -/

/-- Where a slice lies that came of another. -/
def Near (w : World) (v v' : Value) : Prop := ∀ k, v'.ownBlock = some k → v.ownBlock = some k ∨ w.heap.size ≤ k

theorem Near.trans {w w' : World} {a b c : Value} (h : Near w a b) (hs : w.heap.size ≤ w'.heap.size) (k : Near w' b c) : Near w a c := fun j hj => by
  rcases k j hj with h1 | h1
  · exact h j h1
  · exact .inr (Nat.le_trans hs h1)

theorem near_refl (w : World) (v : Value) : Near w v v := fun _ h => .inl h

/-- append(v, x...). -/
theorem append_at {w : World} {B : Nat} {v x : Value} {l l' : List UInt8} (hB : B ≤ w.heap.size) (h : Row w B v l) (hx : Bys w x l') (hlen : l.length + l'.length ≤ 140737488351232) :
    ∃ v' w', (Builtin.append_ #[27, 27] 27 #[v, x]).run Tryz.prog w = .ok v' w' ∧ (Row w' B v' (l ++ l') ∧ OnlyS (fun k => v.ownBlock = some k) w w' ∧ Near w v v') := by
  obtain ⟨i0, hi, hz0, hz1, hz2⟩ := info_parts info_byte
  rcases hx with ⟨rfl, rfl⟩ | ⟨ad, cap, rfl, hc⟩
  · exact ⟨v, w, run_append_owned_none (P := Tryz.prog) (w := w) B _ _ _ i0 1 Tryz.underlying27 hi v l.length (l.map bv) h, by simpa using h, OnlyS.refl _ _, near_refl _ _⟩
  · obtain ⟨v', w', hr, h1, h2, h3, h4⟩ := run_append_own_at (P := Tryz.prog) w B 27 27 5 i0 (.int .u8 0) 1 1 Tryz.underlying27 hi hz0 hz1 hz2 rfl (by decide) v l.length (l.map bv) h ad l'.length cap (l'.map bv) (by simp) (cells_bys hc) (one_bv l') (by unfold maxLen; omega) (by omega) hB
    refine ⟨v', w', hr, ?_, ⟨h2.os, h2.tape, h2.output, h2.size, fun k hk hne => h2.block k hk fun e => hne e.symm⟩, fun k hk => ?_⟩
    · unfold Row
      rw [List.length_append, List.map_append]
      exact h1
    · rcases h4 with h4 | h4
      · exact .inl (h4 ▸ hk)
      · rw [h4] at hk
        simp at hk
        exact .inr (Nat.le_of_eq hk)

theorem zero_cells (k : Nat) : (Builtin.zeroCells (Value.int .u8 0).cells k).toList = (List.replicate k (0 : UInt8)).map bv := by
  apply List.ext_getElem
  · simp [Builtin.zeroCells, Value.cells]
  · intro i h1 h2
    simp [Builtin.zeroCells, Value.cells, bv, Nat.mod_one]

/-- append(v, make([]byte, k)...). -/
theorem append_zeros {w : World} {B : Nat} {v : Value} {l : List UInt8} (hB : B ≤ w.heap.size) (h : Row w B v l) (k : Nat) (hlen : l.length + k ≤ 1099511627776) :
    ∃ v' w', (Builtin.append_ #[27, 3] 27 #[v, .int .i64 (k : Int)]).run Tryz.prog w = .ok v' w' ∧ (Row w' B v' (l ++ List.replicate k 0) ∧ OnlyS (fun k => v.ownBlock = some k) w w' ∧ Near w v v') := by
  obtain ⟨i0, hi, hz0, hz1, hz2⟩ := info_parts info_byte
  have hwk : IntKind.i64.wrap (k : Int) = k := by rw [IntKind.wrap_i64]; omega
  have hw0 : IntKind.i64.wrap 0 = 0 := by rw [IntKind.wrap_i64]; rfl
  have hneg : ¬ ((k : Int) < 0) := by omega
  have h48i : ¬ (281474976710656 < (k : Int)) := by omega
  rcases h.2 with ⟨rfl, h0⟩ | ⟨g, cap, cur, rfl, hbg, hg, hnc, hcm, hcs, htake⟩
  · obtain rfl := List.eq_nil_of_length_eq_zero h0
    by_cases hk : k = 0
    · subst hk
      refine ⟨.slice none 0 0, w, ?_, by simpa using h, OnlyS.refl _ _, near_refl _ _⟩
      simp [Builtin.append_, run_underlying Tryz.underlying27, run_underlying Tryz.underlying3, sizeOf, typeInfo, hi, hz2, asInt, asIntOf, hw0]
    · have hr := Lib.run_append_nil_zeros (P := Tryz.prog) w 27 3 27 5 i0 (.int .u8 0) .i64 .i64 Tryz.underlying27 Tryz.underlying3 hi hz0 k (by omega) (by omega) (by omega) (by rw [hz2]; omega)
      refine ⟨_, _, hr, ?_, ⟨rfl, rfl, rfl, by simp, fun j hj _ => Below.heap_alloc w.drew _ j hj⟩, fun j hj => .inr (by simp [Value.ownBlock] at hj; omega)⟩
      have hge := grownCap_ge w k 0 5
      have hle := grownCap_le_maxLen w k 0 5 (by unfold maxLen; omega)
      refine ⟨by simp, .inr ⟨w.heap.size, _, _, by simp, hB, heap_alloc_new w.drew _, by simpa using hge, hle, ?_, ?_⟩⟩
      · simp [size_zeroCells, Value.cells]
        omega
      · simp only [Array.toList_append, zero_cells, List.nil_append, List.length_replicate, Nat.mul_one]
        rw [List.take_append_of_le_length (by simp)]
        rw [List.take_of_length_le (by simp)]
  · by_cases hroom : l.length + k ≤ cap
    · have hst := run_storeCells_at Tryz.prog g l.length 5 ((List.replicate k (0 : UInt8)).map bv) 0 cur w hg (by simp; omega) (one_bv _)
      refine ⟨.slice (some ⟨g, 0, none⟩) (l.length + k) cap, _, ?_, ⟨by simp, .inr ⟨g, cap, _, by simp, hbg, setRow_heap w g cur (cur.toList.take l.length ++ (List.replicate k (0 : UInt8)).map bv ++ cur.toList.drop (l.length + k)).toArray 5 _ hg, by simpa using hroom, hcm, ?_, ?_⟩⟩, ⟨rfl, rfl, rfl, by simp, fun j hj hne => setRow_other w g j _ fun e => hne (by simp [Value.ownBlock, e])⟩, near_refl _ _⟩
      · have e1 : (Builtin.zeroCells (Value.int .u8 0).cells k).toList = (List.replicate k (0 : UInt8)).map bv := zero_cells k
        simp only [Nat.add_zero] at hst
        by_cases hk : k = 0
        · subst hk
          simp [Builtin.append_, run_underlying Tryz.underlying27, run_underlying Tryz.underlying3, sizeOf, typeInfo, hi, hz1, hz2, asInt, asIntOf, hw0, show l.length ≤ cap by omega, addr_add]
          simp at hst
          simp [hst]
        · simp [Builtin.append_, run_underlying Tryz.underlying27, run_underlying Tryz.underlying3, sizeOf, typeInfo, zeroValue, hi, hz0, hz1, hz2, asInt, asIntOf, hwk, hneg, h48i, hroom, hk, e1]
          simp at hst
          simp [addr_add, hst]
      · simp only [List.size_toArray, List.length_append, List.length_take, List.length_drop, Array.length_toList, List.length_map, List.length_replicate]
        omega
      · simp only [List.length_append, List.length_replicate, Nat.mul_one, List.map_append] at htake ⊢
        rw [htake]
        rw [List.take_append_of_le_length (by simp)]
        rw [List.take_of_length_le (by simp)]
    · have holds : ∀ j u, (l.map bv)[j]? = some u → w.cell? ((⟨g, 0, none⟩ : Addr).add j) = some u := World.ownsRow.cells h (g := g) rfl
      have hold := run_firstCells_some (P := Tryz.prog) w.drew i0.size l.length ⟨g, 0, none⟩ l.length cap (l.map bv) (by simp [hz1]) (by simpa using holds)
      have hr := Lib.run_append_grow_zeros (P := Tryz.prog) w 27 3 27 5 i0 (.int .u8 0) .i64 .i64 Tryz.underlying27 Tryz.underlying3 hi hz0 (some ⟨g, 0, none⟩) l.length cap (l.map bv) hold k (by omega) (by omega) (by omega) (by omega) (by rw [hz2]; omega) (growslice_fits (by omega) (by rw [hz2]; omega))
      refine ⟨_, _, hr, ?_, ⟨rfl, rfl, rfl, by simp, fun j hj _ => Below.heap_alloc w.drew _ j hj⟩, fun j hj => .inr (by simp [Value.ownBlock] at hj; omega)⟩
      have hge := grownCap_ge w (l.length + k) cap 5
      have hle := grownCap_le_maxLen w (l.length + k) cap 5 (by unfold maxLen; omega)
      refine ⟨by simp, .inr ⟨w.heap.size, _, _, by simp, hB, heap_alloc_new w.drew _, by simpa using hge, hle, ?_, ?_⟩⟩
      · simp [size_zeroCells, Value.cells]
        omega
      · simp only [Array.toList_append, zero_cells, List.length_append, List.length_replicate, Nat.mul_one, List.map_append]
        rw [List.take_append_of_le_length (by simp)]
        rw [List.take_of_length_le (by simp)]

end Go.Proofs.YthaggdkfaglgaaaGreatDoor

/- has, usedWith, set, drop: files in a disk's block. -/
namespace Go.Proofs.YthaggdkfaglgaaaGreatDoor
set_option maxRecDepth 20000
open Go.RowKit Go.Maps DiskMath

abbrev fp (d o : Nat) : Value := .pointer (some ⟨d, o, none⟩)

theorem has_any {w : World} {d o m : Nat} {F : Gf} {n : Nm} (c0 : w.cell? ⟨d, o, none⟩ = some (.map (some m))) (hk : Keep w m F) (hn : n.length ≤ 9223372036854775807) :
    Calls Tryz.prog 142 #[fp d o, nm n] w fun e w' => e = .returned (.bool (getA n F).isSome) ∧ w = w' := by
  have hl := look_ok hk hn
  obtain ⟨b, hb⟩ : ∃ b, b = (getA n F).isSome := ⟨_, rfl⟩
  obtain ⟨v, hv⟩ : ∃ v, v = vOf n F := ⟨_, rfl⟩
  obtain ⟨N, hN⟩ : ∃ N, N = nm n := ⟨_, rfl⟩
  rw [← hb, ← hv, ← hN] at hl
  rw [← hb, ← hN]
  clear hk hn hb hv hN
  go_enter Tryz.func142, Tryz.ntmps142
  go_wp2
  go_ret
  exact ⟨rfl, rfl⟩

set_option maxHeartbeats 400000 in
theorem usedWith_any {w : World} {d o m : Nat} {F : Gf} {n : Nm} {a k : Nat} (c0 : w.cell? ⟨d, o, none⟩ = some (.map (some m))) (c1 : w.cell? ⟨d, o + 1, none⟩ = some (.int .i64 (tot (pr F) : Int))) (hk : Keep w m F) (hn : n.length ≤ 9223372036854775807)
    (hf : Fit (pr F)) (hl : F.length ≤ 4096) (ha : a ≤ 1048576) (hkk : k ≤ 4194304) :
    Calls Tryz.prog 155 #[fp d o, nm n, .int .i64 (a : Int), .int .i64 (k : Int)] w fun e w' => e = .returned (.int .i64 (used (pr F) n a k : Int)) ∧ w = w' := by
  have hrow := vOf_row hk n
  have hlen := fit_get hf n
  have htl : tot (pr F) ≤ 34359738368 := by
    have h1 := tot_le (l := pr F) (k := 8388608) fun p hp => (hf p hp).2
    rw [pr_length] at h1
    have h2 := Nat.mul_le_mul_right 8388608 hl
    exact Nat.le_trans h1 h2
  have hgt : ((getA n (pr F)).getD []).length ≤ tot (pr F) := by
    cases hg : getA n (pr F) with
    | none => simp
    | some t => exact tot_get (getA_mem hg)
  have hl := look hk hn
  obtain ⟨A, C, hv⟩ := slice_of_row hrow
  rw [hv] at hl
  unfold used
  obtain ⟨T, hT⟩ : ∃ T, T = tot (pr F) := ⟨_, rfl⟩
  obtain ⟨L, hL⟩ : ∃ L, L = ((getA n (pr F)).getD []).length := ⟨_, rfl⟩
  obtain ⟨N, hN⟩ : ∃ N, N = nm n := ⟨_, rfl⟩
  rw [← hT] at c1 htl hgt
  rw [← hL] at hl hlen hgt
  rw [← hN] at hl
  rw [← hT, ← hL, ← hN]
  have hq : (max (L : Int) ((a : Int) + k)) = ((max L (a + k) : Nat) : Int) := by omega
  obtain ⟨M, hM⟩ : ∃ M, M = max L (a + k) := ⟨_, rfl⟩
  have hM2 : M ≤ 16777216 := by omega
  have hmax : ∀ (ts : Array TypeId) (t : TypeId) (W : World), (Builtin.max_ ts t #[.int .i64 (L : Int), .int .i64 ((a : Int) + k)]).run Tryz.prog W = .ok (.int .i64 (M : Int)) W := fun ts t W => by
    have e : ((if (a : Int) + k > L then (a : Int) + k else L) : Int) = (M : Int) := by omega
    rw [run_max_int2, e]
  have hz := Lib.hid hM
  clear hk hn hf hrow hv hT hL hN hq hM
  by_cases h0 : k = 0
  · subst h0
    rw [if_pos rfl]
    go_enter Tryz.func155, Tryz.ntmps155
    go_wp2
    go_ret
    exact ⟨rfl, rfl⟩
  · rw [if_neg h0, ← hz.out]
    have e : ((T - L + M : Nat) : Int) = (T : Int) - L + M := by omega
    rw [e]
    clear e
    have h1 : (k : Int) ≠ 0 := by omega
    go_enter Tryz.func155, Tryz.ntmps155
    go_wp2
    go_ret
    exact ⟨rfl, rfl⟩

/-- Worlds of one memory. -/
structure Sames (w W : World) : Prop where
  heap : W.heap = w.heap
  os : W.os = w.os
  tape : W.tape = w.tape
  output : W.output = w.output

theorem sames_drew (w : World) : Sames w w.drew := ⟨rfl, rfl, rfl, rfl⟩
theorem sames_drewN (w : World) (n : Nat) : Sames w (w.drewN n) := ⟨rfl, rfl, rfl, rfl⟩
theorem Sames.only {w W : World} (h : Sames w W) (S : Nat → Prop) : OnlyS S w W := ⟨h.os, h.tape, h.output, by rw [h.heap]; exact Nat.le_refl _, fun k _ _ => by rw [h.heap]⟩
theorem Sames.keep {w W : World} (h : Sames w W) {X : Option Nm} {m : Nat} {F : Gf} (hk : KeepBut X w m F) : KeepBut X W m F := hk.same (by rw [h.heap]) fun k _ => by rw [h.heap]
theorem Sames.row {w W : World} (h : Sames w W) {B : Nat} {v : Value} {t : List UInt8} (hr : Row w B v t) : Row W B v t := hr.same fun k _ => by rw [h.heap]
theorem Sames.blk {w W : World} (h : Sames w W) {g : Nat} {t : TypeId} {cs : Array Value} (hb : Blk w g t cs) : Blk W g t cs := by unfold Blk at *; rw [h.heap]; exact hb
theorem Sames.below {w W : World} (h : Sames w W) : Below w.heap.size w W := ⟨h.os, h.tape, h.output, by rw [h.heap]; exact Nat.le_refl _, fun k _ => by rw [h.heap]⟩

theorem foot_ne {w : World} {m d : Nat} {F : Gf} {t : TypeId} {cs : Array Value} (hk : Keep w m F) (hb : Blk w d t cs) (ht : t ≠ 5) {k : Nat} (h : foot F k) : k ≠ d := fun e => by
  obtain ⟨p, hp, h1⟩ := h
  exact row_ne_blk (hk.row p hp) hb ht (by rw [h1, e])

theorem KeepBut.setBlk {X : Option Nm} {w : World} {m d : Nat} {F : Gf} {t : TypeId} {cs : Array Value} (hk : KeepBut X w m F) (hb : Blk w d t cs) (ht : t ≠ 5) (i : Nat) (v : Value) : KeepBut X (w.setCell ⟨d, i, none⟩ v) m F :=
  hk.sameX (heap_setCell_other w ⟨d, i, none⟩ m v (hk.ne_blk hb)) fun p hp hX k h => heap_setCell_other w ⟨d, i, none⟩ k v fun e => row_ne_blk (hk.rowX p hp hX) hb ht (by rw [h, e])

theorem Row.setBlk {w : World} {d B : Nat} {x : Value} {l : List UInt8} {t : TypeId} {cs : Array Value} (hr : Row w B x l) (hb : Blk w d t cs) (ht : t ≠ 5) (i : Nat) (v : Value) : Row (w.setCell ⟨d, i, none⟩ v) B x l :=
  hr.same fun k h => heap_setCell_other w ⟨d, i, none⟩ k v fun e => row_ne_blk hr hb ht (by rw [h, e])

theorem only_set (w : World) (d i : Nat) (v : Value) : OnlyS (fun k => k = d) w (w.setCell ⟨d, i, none⟩ v) :=
  ⟨rfl, rfl, rfl, by simp [World.setCell], fun k _ hne => heap_setCell_other w ⟨d, i, none⟩ k v hne⟩

theorem Blk.only {w w' : World} {d : Nat} {S : Nat → Prop} {t : TypeId} {cs : Array Value} (hb : Blk w d t cs) (h : OnlyS S w w') (hd : ¬ S d) : Blk w' d t cs := by
  unfold Blk at *
  rw [h.block d (Array.getElem?_eq_some_iff.1 hb).1 hd]
  exact hb

theorem wpList_mapUpdate_by {P : Program} {w : World} {ops : Array Oper} {rest : List Oper} {o : Oper} {a : Act} {Q : Exit → Act → World → Prop} (hgd : o.guard = none) (m x v : Operand) (t : TypeId) (ho : o.op = .mapUpdate t m x v)
    (mv key val : Value) (hm : a.eval m = mv) (hx : a.eval x = key) (hv : a.eval v = val) (R : World → Prop) (hr : ∃ w', (Instr.mapUpdate t mv key val).run P w = .ok () w' ∧ R w') (h : ∀ w', R w' → wpList P ops Q rest (a.put o.dst undef) w') : wpList P ops Q (o :: rest) a w := by
  obtain ⟨w', hrun, hR⟩ := hr
  refine wpList_plain hgd fun K hK => ?_
  unfold Oper.wp
  simp [execOp, ho, hm, hx, hv, hrun, Result.andThen]
  exact hK _ _ (h w' hR)

theorem wpList_delete_by {P : Program} {w : World} {ops : Array Oper} {rest : List Oper} {o : Oper} {a : Act} {Q : Exit → Act → World → Prop} (hgd : o.guard = none) (m x : Operand) (t k : TypeId)
    (ho : o.op = .call { callee := .builtin .delete, args := #[m, x], argTypes := #[t, k] }) (mv key : Value) (hm : a.eval m = mv) (hx : a.eval x = key) (R : World → Prop)
    (hr : ∃ w', (Builtin.delete_ #[t, k] o.type #[mv, key]).run P w = .ok (.tuple #[]) w' ∧ R w') (h : ∀ w', R w' → wpList P ops Q rest (a.put o.dst (.tuple #[])) w') : wpList P ops Q (o :: rest) a w := by
  obtain ⟨w', hrun, hR⟩ := hr
  refine wpList_plain hgd fun K hK => ?_
  unfold Oper.wp
  simp [execOp, ho, resolve, invoke, builtin, hm, hx, hrun, Result.andThen]
  exact hK _ _ (h w' hR)

theorem set_tot (F : Gf) (n : Nm) (v : Value) (t : List UInt8) (h : Rise F) : (tot (pr (putA n (v, t) F)) : Int) = (tot (pr F) : Int) + ((t.length : Int) - (((getA n (pr F)).getD []).length : Int)) := by
  rw [pr_put]
  have := tot_put n t (pr F) ((rise_map (fun x : Value × List UInt8 => x.2)).2 h)
  omega

theorem del_tot (F : Gf) (n : Nm) (h : Rise F) : (tot (pr (delA n F)) : Int) = (tot (pr F) : Int) - (((getA n (pr F)).getD []).length : Int) := by
  rw [pr_del]
  have := tot_del n (pr F) ((rise_map (fun x : Value × List UInt8 => x.2)).2 h)
  omega

theorem tot_small {F : Gf} (hf : Fit (pr F)) (hl : F.length ≤ 4096) : tot (pr F) ≤ 34359738368 := by
  have h1 := tot_le (l := pr F) (k := 8388608) fun p hp => (hf p hp).2
  rw [pr_length] at h1
  have h2 := Nat.mul_le_mul_right 8388608 hl
  exact Nat.le_trans h1 h2

theorem get_le (l : Fs) (n : Nm) : ((getA n l).getD []).length ≤ tot l := by
  cases hg : getA n l with
  | none => simp
  | some t => exact tot_get (getA_mem hg)

set_option maxHeartbeats 1000000 in
theorem set_any {w : World} {d o m : Nat} {F : Gf} {n : Nm} {v : Value} {t : List UInt8} {cs : Array Value} (hb : Blk w d 98 cs) (h0 : cs[o]? = some (.map (some m))) (h1 : cs[o + 1]? = some (.int .i64 (tot (pr F) : Int))) (hk : KeepBut (some n) w m F)
    (hn : n.length ≤ 9223372036854775807) (hf : Fit (pr F)) (hl : F.length ≤ 4096) (hlg : Long F) (hv : Row w 0 v t) (ht : t.length ≤ 8388608) (ha : ∀ p ∈ F, p.1 ≠ n → Apart v p.2.1) :
    Calls Tryz.prog 143 #[fp d o, nm n, v] w fun e w' => e = .returned (.tuple #[]) ∧ Keep w' m (putA n (v, t) F) ∧ Blk w' d 98 (cs.setIfInBounds (o + 1) (.int .i64 (tot (pr (putA n (v, t) F)) : Int))) ∧ OnlyS (fun k => k = d ∨ k = m) w w' := by
  have htot := tot_small hf hl
  have hgt := get_le (pr F) n
  have hset := set_tot F n v t hk.rise
  obtain ⟨A, C, rfl⟩ := slice_of_row hv
  obtain ⟨B, D, hvo⟩ := vOf_long hlg n
  obtain ⟨T, hT⟩ : ∃ T, T = tot (pr F) := ⟨_, rfl⟩
  obtain ⟨L, hL⟩ : ∃ L, L = ((getA n (pr F)).getD []).length := ⟨_, rfl⟩
  obtain ⟨l, hl'⟩ : ∃ l, l = t.length := ⟨_, rfl⟩
  obtain ⟨U, hU⟩ : ∃ U : Int, U = (tot (pr (putA n (.slice A t.length C, t) F)) : Int) := ⟨_, rfl⟩
  rw [← hU] at hset ⊢
  rw [← hT] at h1 htot hgt hset
  rw [← hL] at hvo hgt hset
  have HV := Lib.hid hv
  have HK := Lib.hid hk
  have HB := Lib.hid hb
  have HAp := Lib.hid ha
  rw [← hl'] at HV HAp hset ⊢
  have HL := Lib.hid hl'
  have HN := Lib.hid hn
  have HFl := Lib.hid hl
  rw [← hl'] at ht
  obtain ⟨N, hN⟩ : ∃ N, N = nm n := ⟨_, rfl⟩
  rw [← hN]
  have HNe := Lib.hid hN
  have HU := Lib.hid hU
  clear hb hk hn hf hl hv ha hT hL hl' hN hU hlg
  go_enter Tryz.func143, Tryz.ntmps143
  go_wp2
  refine region_tail 17 (by kernel_rfl) (by kernel_rfl) (Sames w) (sames_drew w) ?_
  intro W hW
  have hlk := look (hW.keep HK.out) HN.out
  rw [hvo, ← HNe.out] at hlk
  have c0 : W.cell? ⟨d, o, none⟩ = some (.map (some m)) := by rw [Blk.cell (hW.blk HB.out)]; exact h0
  have c1 : W.cell? ⟨d, o + 1, none⟩ = some (.int .i64 (T : Int)) := by rw [Blk.cell (hW.blk HB.out)]; exact h1
  have f1 : W.frozen? ⟨d, o + 1, none⟩ = false := Blk.frozen (hW.blk HB.out) _
  have hne := HK.out.ne_blk HB.out
  have hb2 := Blk.set (hW.blk HB.out) (o + 1) (.int .i64 ((T : Int) + ((l : Int) - (L : Int))))
  obtain ⟨w2, hr2, hk2, ho2⟩ := store ((hW.keep HK.out).setBlk (hW.blk HB.out) (by decide) (o + 1) (.int .i64 ((T : Int) + ((l : Int) - (L : Int))))) HN.out (Nat.le_trans HFl.out (by omega)) ((hW.row HV.out).setBlk (hW.blk HB.out) (by decide) (o + 1) _) HAp.out
  rw [← HNe.out] at hr2
  have hb3 := hb2.only ho2 (fun e => hne e.symm)
  have ho3 : OnlyS (fun k => k = d ∨ k = m) w w2 := ((hW.only _).then (only_set W d (o + 1) _) fun i _ h => .inl h).then ho2 fun i _ h => .inr h
  rw [← hset] at hb3
  have HK2 := Lib.hid hk2
  have HB3 := Lib.hid hb3
  have HO3 := Lib.hid ho3
  clear hW hb2 hk2 ho2 hb3 ho3
  simp only [List.take_succ_cons, List.take_zero, List.drop_succ_cons, List.drop_zero]
  repeat (first | go_big_quiet_skip | (go_big_quiet_want; go_big_quiet_op; go_big_quiet_on))
  refine wpQuiet_nil ?_
  go_wp2
  go_end0
  refine ⟨rfl, ?_, HB3.out, HO3.out⟩
  have h := HK2.out
  rw [HL.out] at h ⊢
  exact h

set_option maxHeartbeats 1000000 in
theorem drop_any {w : World} {d o m : Nat} {F : Gf} {n : Nm} {cs : Array Value} (hb : Blk w d 98 cs) (h0 : cs[o]? = some (.map (some m))) (h1 : cs[o + 1]? = some (.int .i64 (tot (pr F) : Int))) (hk : Keep w m F)
    (hn : n.length ≤ 9223372036854775807) (hf : Fit (pr F)) (hl : F.length ≤ 4096) :
    Calls Tryz.prog 144 #[fp d o, nm n] w fun e w' => e = .returned (.tuple #[]) ∧ Keep w' m (delA n F) ∧ Blk w' d 98 (cs.setIfInBounds (o + 1) (.int .i64 (tot (pr (delA n F)) : Int))) ∧ OnlyS (fun k => k = d ∨ k = m) w w' := by
  have htot := tot_small hf hl
  have hgt := get_le (pr F) n
  have hset := del_tot F n hk.rise
  obtain ⟨B, D, hvo⟩ := slice_of_row (vOf_row hk n)
  obtain ⟨T, hT⟩ : ∃ T, T = tot (pr F) := ⟨_, rfl⟩
  obtain ⟨L, hL⟩ : ∃ L, L = ((getA n (pr F)).getD []).length := ⟨_, rfl⟩
  obtain ⟨U, hU⟩ : ∃ U : Int, U = (tot (pr (delA n F)) : Int) := ⟨_, rfl⟩
  rw [← hU] at hset ⊢
  rw [← hT] at h1 htot hgt hset
  rw [← hL] at hvo hgt hset
  have HK := Lib.hid hk
  have HB := Lib.hid hb
  have HN := Lib.hid hn
  obtain ⟨N, hN⟩ : ∃ N, N = nm n := ⟨_, rfl⟩
  rw [← hN]
  have HNe := Lib.hid hN
  clear hb hk hn hf hl hT hL hN hU
  go_enter Tryz.func144, Tryz.ntmps144
  go_wp2
  refine region_tail 14 (by kernel_rfl) (by kernel_rfl) (Sames w) (sames_drew w) ?_
  intro W hW
  have hlk := look (hW.keep HK.out) HN.out
  rw [hvo, ← HNe.out] at hlk
  have c0 : W.cell? ⟨d, o, none⟩ = some (.map (some m)) := by rw [Blk.cell (hW.blk HB.out)]; exact h0
  have c1 : W.cell? ⟨d, o + 1, none⟩ = some (.int .i64 (T : Int)) := by rw [Blk.cell (hW.blk HB.out)]; exact h1
  have f1 : W.frozen? ⟨d, o + 1, none⟩ = false := Blk.frozen (hW.blk HB.out) _
  have hne := HK.out.ne_blk HB.out
  have hb2 := Blk.set (hW.blk HB.out) (o + 1) (.int .i64 ((T : Int) - (L : Int)))
  have hr2 := fun ty => drop ((hW.keep HK.out).setBlk (hW.blk HB.out) (by decide) (o + 1) (.int .i64 ((T : Int) - (L : Int)))) HN.out ty
  rw [← HNe.out] at hr2
  have HR2 := Lib.hid hr2
  have HB2 := Lib.hid hb2
  have HW := Lib.hid hW
  clear hW hb2 hr2
  simp only [List.take_succ_cons, List.take_zero, List.drop_succ_cons, List.drop_zero]
  repeat (first | go_big_quiet_skip | (go_big_quiet_want; go_big_quiet_op; go_big_quiet_on))
  refine wpQuiet_nil ?_
  go_wp2_with (at_delete; refine wpList_delete_by rfl _ _ 93 9 rfl _ _ rfl rfl _ (HR2.out _) ?_; rintro w2 ⟨hk2, ho2⟩; (have HK2 := Lib.hid hk2); (have HO2 := Lib.hid ho2); clear hk2 ho2)
  go_end0
  refine ⟨rfl, HK2.out, ?_, ((HW.out.only _).then (only_set W d (o + 1) _) fun i _ h => .inl h).then HO2.out fun i _ h => .inr h⟩
  have hb3 := HB2.out.only HO2.out (fun e => hne e.symm)
  exact hb3

end Go.Proofs.YthaggdkfaglgaaaGreatDoor

/- write: bytes laid over a file's. -/
namespace Go.Proofs.YthaggdkfaglgaaaGreatDoor
set_option maxRecDepth 20000
open Go.RowKit Go.Maps DiskMath

theorem Bys.same {w w' : World} {v : Value} {l : List UInt8} (h : Bys w v l) (hk : ∀ k, v.ownBlock = some k → w'.heap[k]? = w.heap[k]?) : Bys w' v l := by
  rcases h with h | ⟨ad, cap, hv, hc⟩
  · exact .inl h
  · subst hv
    refine .inr ⟨ad, cap, rfl, fun i hi => ?_⟩
    have hb : (ad.add i).block = ad.block := by unfold Addr.add; split <;> rfl
    rw [World.cell?_of_block (w := w) (by rw [hb]; exact hk _ rfl)]
    exact hc i hi

/-- 'copy(v[a:], b)'. -/
theorem lay_over {w : World} {B : Nat} {v : Value} {t : List UInt8} (h : Row w B v t) {a : Nat} (ha : a ≤ t.length) {ab : Option Addr} {lb cb : Nat} {b : List UInt8} (hb : Bys w (.slice ab lb cb) b) (hlb : b.length = lb) :
    ∃ sv, (∀ W, (Instr.sliceAt 27 v (some (.int .i64 (a : Int))) none none).run Tryz.prog W = .ok sv W) ∧
      ∃ w', (Builtin.copy_ #[27, 27] 3 #[sv, .slice ab lb cb]).run Tryz.prog w = .ok (.int .i64 ((min (t.length - a) lb : Nat) : Int)) w' ∧
        (Row w' B v (t.take a ++ b.take (min (t.length - a) lb) ++ t.drop (a + min (t.length - a) lb)) ∧ OnlyS (fun k => v.ownBlock = some k) w w') := by
  have hty : Tryz.prog.underlying 27 = some (.slice (Tryz.prog.elem 27)) := by rw [elem_bytes]; exact Tryz.underlying27
  obtain ⟨q, hq⟩ : ∃ q, q = min (t.length - a) lb := ⟨_, rfl⟩
  rw [← hq]
  have none_case : ∀ (sa : Option Addr) (sc : Nat), q = 0 → t.length - a = 0 → (Builtin.copy_ #[27, 27] 3 #[.slice sa 0 sc, .slice ab lb cb]).run Tryz.prog w = .ok (.int .i64 ((q : Nat) : Int)) w := by
    intro sa sc h0 h1
    have := run_copy_none (P := Tryz.prog) w 27 27 3 5 sa ab 0 sc lb cb Tryz.underlying27 (by kernel_rfl) (by simp)
    rw [this, h0]
    rfl
  rcases h.2 with ⟨rfl, h0⟩ | ⟨g, cap, cur, rfl, hB, hg, hn, hm, hs, ht⟩
  · obtain rfl := List.eq_nil_of_length_eq_zero h0
    simp at ha
    subst ha
    have hq0 : q = 0 := by simp at hq; omega
    refine ⟨.slice none 0 0, fun W => ?_, w, none_case _ _ hq0 (by simp), by rw [hq0]; simpa using h, OnlyS.refl _ _⟩
    rw [run_sliceAt_slice _ _ _ _ _ _ hty, run_slice_l _ _ _ _ _ hty .i64 ((0 : Nat) : Int) (by omega) (by omega), elem_bytes, size_byte]
    simp [Result.andThen, sliced]
  · refine ⟨sliced (some ⟨g, 0, none⟩) a t.length cap 1, fun W => ?_, ?_⟩
    · rw [run_sliceAt_slice _ _ _ _ _ _ hty, run_slice_l _ _ _ _ _ hty .i64 (a : Int) (by omega) (by omega), elem_bytes, size_byte]
      simp [Result.andThen]
    · by_cases hz : t.length - a = 0
      · have hq0 : q = 0 := by omega
        have ha2 : a = t.length := by omega
        refine ⟨w, ?_, ?_, OnlyS.refl _ _⟩
        · unfold sliced
          rw [hz]
          exact none_case _ _ hq0 hz
        · rw [hq0]
          simpa [List.take_append_drop] using h
      · have hcap : ¬ cap = a := by omega
        have e1 : sliced (some ⟨g, 0, none⟩) a t.length cap 1 = .slice (some ⟨g, a, none⟩) (t.length - a) (cap - a) := by
          unfold sliced
          rw [if_neg hcap]
          simp [addr_add]
        rw [e1]
        rcases hb with ⟨e, rfl⟩ | ⟨ad, c, e, hc⟩
        · simp at e
          obtain ⟨rfl, rfl, rfl⟩ := e
          have hq0 : q = 0 := by omega
          refine ⟨w, ?_, by rw [hq0]; simpa [List.take_append_drop] using h, OnlyS.refl _ _⟩
          have := run_copy_nil (P := Tryz.prog) w 27 27 3 5 ⟨g, a, none⟩ (t.length - a) (cap - a) Tryz.underlying27 (by kernel_rfl)
          rw [this, hq0]
          rfl
        · simp at e
          obtain ⟨rfl, rfl, rfl⟩ := e
          have hql : (b.take q).length = q := by rw [List.length_take]; omega
          have hcp := run_copy_row (P := Tryz.prog) w 27 27 3 5 g a (t.length - a) (cap - a) ad b.length cb cur 5 ((b.take q).map bv) Tryz.underlying27 (by kernel_rfl) hg
            (by rw [List.length_map, hql, hq, Nat.min_comm])
            (fun j u hj => by
              rw [List.getElem?_map] at hj
              obtain ⟨x, hx, rfl⟩ := Option.map_eq_some_iff.1 hj
              obtain ⟨hj1, hx⟩ := List.getElem?_eq_some_iff.1 hx
              rw [hql] at hj1
              rw [hc j (by omega), ← hx]
              simp)
            (by rw [List.length_map, hql]; omega) (one_bv _)
          rw [List.length_map, hql] at hcp
          refine ⟨_, hcp, ?_, ⟨rfl, rfl, rfl, by simp, fun k hk hne => setRow_other w g k _ fun e => hne (by simp [Value.ownBlock, e])⟩⟩
          have hlen : (t.take a ++ b.take q ++ t.drop (a + q)).length = t.length := by
            simp only [List.length_append, List.length_take, List.length_drop]
            omega
          refine ⟨by rw [List.length_map, Nat.mul_one], .inr ⟨g, cap, _, by rw [hlen], hB, setRow_heap w g cur _ 5 _ hg, by rw [hlen]; exact hn, hm, ?_, ?_⟩⟩
          · simp only [List.size_toArray, List.length_append, List.length_take, List.length_drop, Array.length_toList, List.length_map]
            omega
          · rw [hlen]
            simp only [Nat.mul_one] at ht ⊢
            rw [List.map_append, List.map_append, List.map_take, List.map_take, List.map_drop, ← ht]
            apply List.ext_getElem?
            intro i
            have hcl : cur.toList.length = cap := by rw [Array.length_toList]; omega
            have hbl : ((b.map bv).take q).length = q := by rw [← List.map_take, List.length_map, hql]
            simp only [List.getElem?_append, List.getElem?_take, List.length_append, List.length_take, hcl, List.length_map, List.getElem?_drop]
            repeat' split
            all_goals first | (exfalso; omega) | rfl | (congr 1; omega) | skip

/-- What a write leaves. -/
theorem lay_eq (t : List UInt8) (a : Nat) (b : List UInt8) (hb : b ≠ []) (t1 : List UInt8) (h1 : t1 = t ++ List.replicate (a - t.length) 0) (q : Nat) (hq : q = min (t1.length - a) b.length) :
    t1.take a ++ b.take q ++ t1.drop (a + q) ++ b.drop q = layT t a b := by
  have hl : t1.length = max t.length a := by rw [h1]; simp; omega
  have hbl : 0 < b.length := List.length_pos_iff.2 hb
  unfold layT
  rw [if_neg hb, ← h1]
  by_cases h : q = b.length
  · have h2 : t1 = t := by rw [h1, show a - t.length = 0 by omega]; simp
    rw [h, List.drop_length, List.append_nil, List.take_length, h2]
  · have h3 : q = t1.length - a := by omega
    rw [List.drop_of_length_le (l := t1) (i := a + q) (by omega), List.drop_of_length_le (l := t) (i := a + b.length) (by omega), List.append_nil, List.append_nil, List.append_assoc, List.take_append_drop]

theorem wpList_append_by2 {P : Program} {w : World} {ops : Array Oper} {rest : List Oper} {o : Oper} {a : Act} {Q : Exit → Act → World → Prop} (hgd : o.guard = none) (s x : Operand) (t t' : TypeId)
    (ho : o.op = .call { callee := .builtin .append, args := #[s, x], argTypes := #[t, t'] }) (v y : Value) (hs : a.eval s = v) (hx : a.eval x = y) (R : Value → World → Prop)
    (hr : ∃ v' w', (Builtin.append_ #[t, t'] o.type #[v, y]).run P w = .ok v' w' ∧ R v' w')
    (h : ∀ v' w', R v' w' → wpList P ops Q rest (a.put o.dst v') w') : wpList P ops Q (o :: rest) a w := by
  obtain ⟨v', w', hrun, hR⟩ := hr
  refine wpList_plain hgd fun K hK => ?_
  unfold Oper.wp
  simp [execOp, ho, resolve, invoke, builtin, hs, hx, hrun, Result.andThen]
  exact hK _ _ (h v' w' hR)

theorem wpList_copy_into {P : Program} {w : World} {ops : Array Oper} {rest : List Oper} {o : Oper} {a : Act} {Q : Exit → Act → World → Prop} (hgd : o.guard = none) (s x : Operand) (t : TypeId)
    (ho : o.op = .call { callee := .builtin .copy, args := #[s, x], argTypes := #[t, t] }) (v y c : Value) (hs : a.eval s = v) (hx : a.eval x = y) (R : World → Prop)
    (hr : ∃ w', (Builtin.copy_ #[t, t] o.type #[v, y]).run P w = .ok c w' ∧ R w') (h : ∀ w', R w' → wpList P ops Q rest (a.put o.dst c) w') : wpList P ops Q (o :: rest) a w := by
  obtain ⟨w', hrun, hR⟩ := hr
  exact wpList_copy_by hgd s x t ho v y c w' hs hx hrun (h w' hR)

theorem near_apart {w : World} {m : Nat} {F : Gf} (h : Keep w m F) {n : Nm} {v' : Value} (hv : Near w (vOf n F) v') : ∀ p ∈ F, p.1 ≠ n → Apart v' p.2.1 := fun p hp hne k hk hk2 => by
  rcases hv k hk with h1 | h1
  · exact vOf_apart h n p hp hne k h1 hk2
  · have := ((h.row p hp).lt hk2).2
    omega

set_option maxHeartbeats 2000000 in
theorem fwrite_any {w : World} {d o m : Nat} {F : Gf} {n : Nm} {a : Nat} {ab : Option Addr} {lb cb : Nat} {b : List UInt8} {cs : Array Value} (hb : Blk w d 98 cs) (h0 : cs[o]? = some (.map (some m))) (h1 : cs[o + 1]? = some (.int .i64 (tot (pr F) : Int)))
    (hk : Keep w m F) (hn : n.length ≤ 16) (hf : Fit (pr F)) (hl : F.length ≤ 4095) (ha : a ≤ 1048576) (hbb : Bys w (.slice ab lb cb) b) (hlb : b.length = lb) (hlc : lb ≤ cb) (hb4 : lb ≤ 4194304) (hap : ∀ k, foot F k → (Value.slice ab lb cb).ownBlock ≠ some k) :
    Calls Tryz.prog 141 #[fp d o, nm n, .int .i64 (a : Int), .slice ab lb cb] w fun e w' => e = .returned (.tuple #[]) ∧ ∃ v', Keep w' m (putA n (v', layT ((getA n (pr F)).getD []) a b) F) ∧ Near w (vOf n F) v' ∧
      Blk w' d 98 (cs.setIfInBounds (o + 1) (.int .i64 (tot (putA n (layT ((getA n (pr F)).getD []) a b) (pr F)) : Int))) ∧ OnlyS (fun k => k = d ∨ k = m ∨ (vOf n F).ownBlock = some k) w w' := by
  have hrow := vOf_row hk n
  have hlen := fit_get hf n
  have hn2 : n.length ≤ 9223372036854775807 := by omega
  have hlk := look hk hn2
  obtain ⟨A, C, hvo⟩ := slice_of_row hrow
  have hlay := fit_lay hf n ha (by rw [hlb]; exact hb4 : b.length ≤ 4194304)
  have hxl : vOf n F = vOf n F → True := fun _ => trivial
  clear hxl
  obtain ⟨t, ht⟩ : ∃ t, t = (getA n (pr F)).getD [] := ⟨_, rfl⟩
  rw [← ht] at hrow hlen hvo hlay ⊢
  rw [hvo] at hlk hrow
  have c0 : w.cell? ⟨d, o, none⟩ = some (.map (some m)) := by rw [Blk.cell hb]; exact h0
  have HRow := Lib.hid hrow
  have HK := Lib.hid hk
  have HB := Lib.hid hb
  have HF := Lib.hid hf
  have HFl := Lib.hid hl
  have HN := Lib.hid hn2
  have HN16 := Lib.hid hn
  have HBb := Lib.hid hbb
  have HT := Lib.hid ht
  have HLay := Lib.hid hlay
  have HAp := Lib.hid hap
  have H0 := Lib.hid h0
  have H1 := Lib.hid h1
  have HLb := Lib.hid hlb
  have HVo := Lib.hid hvo
  have HC := Lib.hid hlc
  obtain ⟨N, hN⟩ : ∃ N, N = nm n := ⟨_, rfl⟩
  rw [← hN] at hlk ⊢
  have HNe := Lib.hid hN
  obtain ⟨L, hL⟩ : ∃ L, L = t.length := ⟨_, rfl⟩
  rw [← hL] at hlk HRow HVo hlen
  have HL := Lib.hid hL
  -- what set gives, in whatever world
  have hset : ∀ (W : World) (v' : Value), OnlyS (fun k => (vOf n F).ownBlock = some k) w W → Row W 0 v' (layT t a b) → Near w (vOf n F) v' →
      Calls Tryz.prog 143 #[fp d o, N, v'] W fun e w' => e = .returned (.tuple #[]) ∧ ∃ v', Keep w' m (putA n (v', layT t a b) F) ∧ Near w (vOf n F) v' ∧
        Blk w' d 98 (cs.setIfInBounds (o + 1) (.int .i64 (tot (putA n (layT t a b) (pr F)) : Int))) ∧ OnlyS (fun k => k = d ∨ k = m ∨ (vOf n F).ownBlock = some k) w w' := by
    intro W v' hO hR hN'
    have hnd : ∀ k, (vOf n F).ownBlock = some k → k ≠ d := fun k hk' e => row_ne_blk (vOf_row HK.out n) HB.out (by decide) (by rw [hk', e])
    have hnm : ∀ k, (vOf n F).ownBlock = some k → k ≠ m := fun k hk' e => HK.out.ne (vOf_row HK.out n) (by rw [hk', e])
    have hb' : Blk W d 98 cs := HB.out.only hO fun e => hnd d e rfl
    have hkb : KeepBut (some n) W m F := (HK.out.but (some n)).sameX (hO.block m HK.out.lt fun e => hnm m e rfl) fun p hp hX k hkk => hO.block k ((HK.out.row p hp).lt hkk).2 fun e => vOf_apart HK.out n p hp (fun e' => hX (by rw [e'])) k e hkk
    rw [HNe.out]
    refine (set_any hb' H0.out H1.out hkb HN.out HF.out (Nat.le_trans HFl.out (by omega)) HK.out.long hR HLay.out (near_apart HK.out hN')).mono ?_
    rintro e w' ⟨rfl, r1, r2, r3⟩
    refine ⟨rfl, v', r1, hN', ?_, (hO.mono fun k _ h => .inr (.inr h)).then r3 fun k _ h => ?_⟩
    · rw [pr_put] at r2
      exact r2
    · rcases h with h | h
      · exact .inl h
      · exact .inr (.inl h)
  have HSet := Lib.hid hset
  clear hb hk hn hn2 hf hl hbb hap ht hrow hlay h0 h1 hN hL hset hlb hvo
  by_cases hbz : b = []
  · have hz : lb = 0 := by rw [← HLb.out, hbz]; rfl
    subst hz
    go_enter Tryz.func141, Tryz.ntmps141
    go_wp2_with fail
    refine (HSet.out w (.slice A L C) (OnlyS.refl _ _) (by have h := HRow.out; unfold layT; rw [if_pos hbz]; exact h) (by rw [HVo.out]; exact near_refl _ _)).mono ?_
    rintro e w' ⟨rfl, h⟩
    go_wp2
    go_end0
    exact ⟨rfl, h⟩
  · have hbp : 0 < lb := by rw [← HLb.out]; exact List.length_pos_iff.2 hbz
    obtain ⟨z, hz⟩ : ∃ z, z = a - L := ⟨_, rfl⟩
    have hmax : ∀ (ts : Array TypeId) (ty : TypeId) (W : World), (Builtin.max_ ts ty #[.int .i64 ((a : Int) - L), .int .i64 0]).run Tryz.prog W = .ok (.int .i64 (z : Int)) W := fun ts ty W => by
      have e : ((if (0 : Int) > (a : Int) - L then 0 else (a : Int) - L) : Int) = (z : Int) := by omega
      rw [run_max_int2, e]
    have A1 := Lib.hid (append_zeros (B := 0) (Nat.zero_le _) HRow.out z (by rw [← HL.out]; omega))
    have HZ := Lib.hid hz
    have HBz := Lib.hid hbz
    clear hz hbz
    go_enter Tryz.func141, Tryz.ntmps141
    go_upto_region 3 with (at_builtin; refine wpList_append_by2 rfl _ _ 27 3 rfl _ _ rfl rfl _ A1.out ?_; rintro v1 w1 ⟨hr1, ho1, hn1⟩; (have HR1 := Lib.hid hr1); (have HO1 := Lib.hid ho1); (have HN1 := Lib.hid hn1); clear hr1 ho1 hn1)
    have hbne : ∀ k, (Value.slice ab lb cb).ownBlock = some k → (Value.slice A L C).ownBlock ≠ some k := fun k h1 h2 => HAp.out k (vOf_foot (by rw [HVo.out]; exact h2)) h1
    have hbb1 : Bys w1 (.slice ab lb cb) b := HBb.out.same fun k hk => by
      rcases Nat.lt_or_ge k w.heap.size with h | h
      · exact HO1.out.block k h (hbne k hk)
      · exfalso
        rcases HBb.out with ⟨e, _⟩ | ⟨ad, cap, e, hc⟩
        · rw [e] at hk; simp [Value.ownBlock] at hk
        · rw [e] at hk
          simp [Value.ownBlock] at hk
          have := World.block_lt_of_cell? w _ (hc 0 (by rw [HLb.out]; exact hbp))
          rw [add_block] at this
          omega
    have hv1b : ∀ k, (Value.slice ab lb cb).ownBlock = some k → k < w.heap.size := fun k hk => by
      rcases HBb.out with ⟨e, _⟩ | ⟨ad, cap, e, hc⟩
      · rw [e] at hk; simp [Value.ownBlock] at hk
      · rw [e] at hk
        simp [Value.ownBlock] at hk
        have := World.block_lt_of_cell? w _ (hc 0 (by rw [HLb.out]; exact hbp))
        rw [add_block] at this
        omega
    obtain ⟨t1, ht1⟩ : ∃ t1, t1 = t ++ List.replicate z 0 := ⟨_, rfl⟩
    have hr1 := HR1.out
    rw [← ht1] at hr1
    have ht1l : t1.length = max L a := by rw [ht1]; simp; have := HL.out; have := HZ.out; omega
    obtain ⟨sv, hsl, hcp⟩ := lay_over hr1 (a := a) (by omega) hbb1 HLb.out
    obtain ⟨q, hq⟩ : ∃ q, q = min (t1.length - a) lb := ⟨_, rfl⟩
    rw [← hq] at hcp
    have hql : q ≤ lb := by omega
    have HCp := Lib.hid hcp
    have HQ := Lib.hid hq
    have HT1 := Lib.hid ht1
    have HT1l := Lib.hid ht1l
    have HR1' := Lib.hid hr1
    have HB1 := Lib.hid hbb1
    have HV1 := Lib.hid hv1b
    have HBne := Lib.hid hbne
    clear hcp hq ht1 ht1l hr1 hbb1 hv1b hbne HR1 A1 hmax hlk
    go_upto_region 4 with (refine wpList_copy_into rfl _ _ 27 rfl _ _ _ rfl rfl _ HCp.out ?_; rintro w2 ⟨hr2, ho2⟩; (have HR2 := Lib.hid hr2); (have HO2 := Lib.hid ho2); clear hr2 ho2)
    have hv1ne : ∀ k, (Value.slice ab lb cb).ownBlock = some k → v1.ownBlock ≠ some k := fun k h1 h2 => by
      rcases HN1.out k h2 with h | h
      · exact HBne.out k h1 h
      · have := HV1.out k h1
        omega
    have hbb2 : Bys w2 (.slice ab lb cb) b := HB1.out.same fun k hk => HO2.out.block k (Nat.lt_of_lt_of_le (HV1.out k hk) HO1.out.size) (hv1ne k hk)
    obtain ⟨a', hsl2, hby⟩ := bys_from ab lb cb q b w2 hbb2 HLb.out HC.out hql
    have A3 := Lib.hid (append_at (B := 0) (Nat.zero_le _) HR2.out hby (by
      simp only [List.length_append, List.length_take, List.length_drop]
      have := HLb.out
      have := HT1l.out
      omega))
    clear hsl HCp hby
    go_wp2_with (at_builtin; refine wpList_append_by2 rfl _ _ 27 27 rfl _ _ rfl rfl _ A3.out ?_; rintro v3 w3 ⟨hr3, ho3, hn3⟩; (have HR3 := Lib.hid hr3); (have HO3 := Lib.hid ho3); (have HN3 := Lib.hid hn3); clear hr3 ho3 hn3)
    have hO : OnlyS (fun k => (vOf n F).ownBlock = some k) w w3 := by
      rw [HVo.out]
      have hlt : ∀ i, i < w.heap.size → v1.ownBlock = some i → (Value.slice A L C).ownBlock = some i := fun i hi h => by
        rcases HN1.out i h with h | h
        · exact h
        · omega
      exact (HO1.out.then HO2.out hlt).then HO3.out hlt
    have hrow3 : Row w3 0 v3 (layT t a b) := by
      have h := HR3.out
      rw [lay_eq t a b HBz.out t1 (by rw [HT1.out, HZ.out, HL.out]) q (by rw [HQ.out, HLb.out])] at h
      exact h
    have hN3 : Near w (vOf n F) v3 := by
      rw [HVo.out]
      exact HN1.out.trans HO1.out.size (fun k hk => by
        rcases HN3.out k hk with h | h
        · exact .inl h
        · exact .inr (Nat.le_trans HO2.out.size h))
    have HK3 := Lib.hid (HSet.out w3 v3 hO hrow3 hN3)
    clear hO hrow3 hN3
    refine HK3.out.mono ?_
    rintro e w' ⟨rfl, h⟩
    go_wp2
    go_end0
    exact ⟨rfl, h⟩
end Go.Proofs.YthaggdkfaglgaaaGreatDoor

