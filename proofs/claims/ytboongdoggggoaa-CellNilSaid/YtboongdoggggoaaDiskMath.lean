/- Layer 8 as plain functions: files by their names, in the order of these; what operations do to them. -/
import Derived.WideShapes
import Derived.WideAt
import Derived.Sort.KeysCollected
namespace Go.Proofs.Ytboongdoggggoaa.DiskMath
set_option maxRecDepth 20000
open Go

abbrev Nm := List UInt8

def getA {α : Type} (n : Nm) (l : List (Nm × α)) : Option α := (l.find? fun p => p.1 == n).map (·.2)
def delA {α : Type} (n : Nm) (l : List (Nm × α)) : List (Nm × α) := l.filter fun p => !(p.1 == n)
def insA {α : Type} (x : Nm × α) : List (Nm × α) → List (Nm × α)
  | [] => [x]
  | y :: r => if bytesBefore x.1 y.1 then x :: y :: r else y :: insA x r
def putA {α : Type} (n : Nm) (a : α) (l : List (Nm × α)) : List (Nm × α) := insA (n, a) (delA n l)

/-- The names rise. -/
def Rise {α : Type} (l : List (Nm × α)) : Prop := l.Pairwise fun p q => bytesBefore p.1 q.1 = true

section
variable {α β : Type} {n m : Nm} {a b : α} {l : List (Nm × α)} {p : Nm × α}

theorem before_ne {x y : Nm} (h : bytesBefore x y = true) : x ≠ y := by
  rintro rfl
  rw [WideAt.bytes_irrefl] at h
  cases h

theorem mem_ins {x : Nm × α} : p ∈ insA x l ↔ p = x ∨ p ∈ l := by
  induction l with
  | nil => simp [insA]
  | cons y r ih =>
    unfold insA
    split
    · simp
    · simp only [List.mem_cons, ih]
      constructor
      · rintro (h | h | h) <;> simp [h]
      · rintro (h | h | h) <;> simp [h]

theorem mem_del : p ∈ delA n l ↔ p ∈ l ∧ p.1 ≠ n := by simp [delA]

theorem mem_put : p ∈ putA n a l ↔ p = (n, a) ∨ (p ∈ l ∧ p.1 ≠ n) := by rw [putA, mem_ins, mem_del]

theorem getA_mem (h : getA n l = some a) : (n, a) ∈ l := by
  unfold getA at h
  obtain ⟨q, hq, rfl⟩ := Option.map_eq_some_iff.1 h
  have h1 := List.find?_some hq
  simp only [beq_iff_eq] at h1
  subst h1
  exact List.mem_of_find?_eq_some hq

theorem getA_none (h : getA n l = none) : ∀ p ∈ l, p.1 ≠ n := fun p hp e => by
  unfold getA at h
  rw [Option.map_eq_none_iff, List.find?_eq_none] at h
  exact h p hp (by simpa using e)

theorem getA_none_of (h : ∀ p ∈ l, p.1 ≠ n) : getA n l = none := by
  unfold getA
  rw [Option.map_eq_none_iff, List.find?_eq_none]
  exact fun p hp => by simpa using h p hp

theorem getA_of_mem (hr : Rise l) (h : (n, a) ∈ l) : getA n l = some a := by
  cases hg : getA n l with
  | none => exact absurd rfl (getA_none hg _ h)
  | some b =>
    have hb := getA_mem hg
    by_cases he : ((n, a) : Nm × α) = (n, b)
    · cases he; rfl
    · exfalso
      clear hg
      unfold Rise at hr
      induction l with
      | nil => cases h
      | cons y r ih =>
        rw [List.pairwise_cons] at hr
        rcases List.mem_cons.1 h with e1 | h1
        · rcases List.mem_cons.1 hb with e | h2
          · exact he (e1.trans e.symm)
          · exact before_ne (hr.1 _ h2) (by rw [← e1])
        · rcases List.mem_cons.1 hb with e2 | h2
          · exact before_ne (hr.1 _ h1) (by rw [← e2])
          · exact ih hr.2 h1 h2

theorem getA_map (f : α → β) : getA n (l.map fun p => (p.1, f p.2)) = (getA n l).map f := by
  unfold getA
  rw [List.find?_map]
  cases h : l.find? (fun p => p.1 == n) with
  | none =>
    have : l.find? ((fun p : Nm × β => p.1 == n) ∘ fun p => (p.1, f p.2)) = none := h
    rw [this]; rfl
  | some q =>
    have : l.find? ((fun p : Nm × β => p.1 == n) ∘ fun p => (p.1, f p.2)) = some q := h
    rw [this]; rfl

theorem delA_map (f : α → β) : delA n (l.map fun p => (p.1, f p.2)) = (delA n l).map fun p => (p.1, f p.2) := by
  unfold delA
  rw [List.filter_map]
  rfl

theorem insA_map (f : α → β) (x : Nm × α) : insA (x.1, f x.2) (l.map fun p => (p.1, f p.2)) = (insA x l).map fun p => (p.1, f p.2) := by
  induction l with
  | nil => rfl
  | cons y r ih =>
    simp only [List.map_cons, insA]
    split
    · rfl
    · rw [List.map_cons, ih]

theorem putA_map (f : α → β) : putA n (f a) (l.map fun p => (p.1, f p.2)) = (putA n a l).map fun p => (p.1, f p.2) := by
  unfold putA
  rw [delA_map, ← insA_map f (n, a)]

theorem length_ins (x : Nm × α) : (insA x l).length = l.length + 1 := by
  induction l with
  | nil => rfl
  | cons y r ih =>
    unfold insA
    split
    · rfl
    · simp [ih]

theorem length_del : (delA n l).length ≤ l.length := List.length_filter_le _ _

theorem length_put : (putA n a l).length ≤ l.length + 1 := by
  rw [putA, length_ins]
  have := length_del (n := n) (l := l)
  omega

theorem rise_del (h : Rise l) : Rise (delA n l) := List.Pairwise.filter _ h

theorem rise_ins {x : Nm × α} (h : Rise l) (hx : ∀ p ∈ l, p.1 ≠ x.1) : Rise (insA x l) := by
  induction l with
  | nil => simp [insA, Rise]
  | cons y r ih =>
    unfold Rise at h
    rw [List.pairwise_cons] at h
    unfold insA
    split
    · rename_i hb
      unfold Rise
      refine List.pairwise_cons.2 ⟨fun q hq => ?_, List.pairwise_cons.2 h⟩
      rcases List.mem_cons.1 hq with rfl | hq
      · exact hb
      · exact WideShapes.bytes_trans _ _ _ hb (h.1 q hq)
    · rename_i hb
      unfold Rise
      refine List.pairwise_cons.2 ⟨fun q hq => ?_, ih h.2 fun q hq => hx q (List.mem_cons_of_mem _ hq)⟩
      rcases mem_ins.1 hq with rfl | hq
      · rcases WideAt.bytes_total q.1 y.1 (fun e => hx y (by simp) e.symm) with h1 | h1
        · exact absurd h1 hb
        · exact h1
      · exact h.1 q hq

theorem rise_put (h : Rise l) : Rise (putA n a l) := rise_ins (rise_del h) fun _ hp => (mem_del.1 hp).2

theorem rise_map (f : α → β) : Rise (l.map fun p => (p.1, f p.2)) ↔ Rise l := by
  unfold Rise
  rw [List.pairwise_map]

/-- Two rising lists with the same members are one. -/
theorem eq_of_rise : ∀ {l l' : List (Nm × α)}, Rise l → Rise l' → (∀ p, p ∈ l ↔ p ∈ l') → l = l'
  | [], [], _, _, _ => rfl
  | [], b :: s, _, _, h => by have := (h b).2 (by simp); simp at this
  | a :: r, [], _, _, h => by have := (h a).1 (by simp); simp at this
  | a :: r, b :: s, h1, h2, h => by
    obtain ⟨a1, a2⟩ := List.pairwise_cons.1 h1
    obtain ⟨b1, b2⟩ := List.pairwise_cons.1 h2
    have no : ∀ {x y : Nm}, bytesBefore x y = true → bytesBefore y x = true → False := fun h h' => before_ne (WideShapes.bytes_trans _ _ _ h h') rfl
    have hab : a = b := by
      rcases List.mem_cons.1 ((h a).1 (by simp)) with e | ha
      · exact e
      · rcases List.mem_cons.1 ((h b).2 (by simp)) with e | hb
        · exact e.symm
        · exact (no (a1 b hb) (b1 a ha)).elim
    subst hab
    rw [eq_of_rise a2 b2 fun q => ⟨fun hp => by
      rcases List.mem_cons.1 ((h q).1 (by simp [hp])) with e | hp'
      · exact absurd e.symm (fun e' => before_ne (a1 q hp) (by rw [e']))
      · exact hp', fun hp => by
      rcases List.mem_cons.1 ((h q).2 (by simp [hp])) with e | hp'
      · exact absurd e.symm (fun e' => before_ne (b1 q hp) (by rw [e']))
      · exact hp'⟩]

theorem put_self (h : Rise l) (hg : getA n l = some a) : putA n a l = l := by
  refine eq_of_rise (rise_put h) h fun q => ?_
  rw [mem_put]
  constructor
  · rintro (rfl | ⟨h1, _⟩)
    · exact getA_mem hg
    · exact h1
  · intro hp
    by_cases he : q.1 = n
    · left
      have := getA_of_mem h (show (n, q.2) ∈ l by rw [← he]; exact hp)
      rw [hg] at this
      cases this
      exact Prod.ext he rfl
    · exact .inr ⟨hp, he⟩

theorem del_none (hg : getA n l = none) : delA n l = l := by
  unfold delA
  rw [List.filter_eq_self]
  exact fun p hp => by simpa using getA_none hg p hp

theorem getA_put_same (h : Rise l) : getA n (putA n a l) = some a := getA_of_mem (rise_put h) (mem_put.2 (.inl rfl))

theorem getA_put_other (h : Rise l) (hne : m ≠ n) : getA m (putA n a l) = getA m l := by
  cases hg : getA m l with
  | none =>
    refine getA_none_of fun p hp e => ?_
    rcases mem_put.1 hp with rfl | ⟨h1, _⟩
    · exact hne e.symm
    · exact getA_none hg p h1 e
  | some b => exact getA_of_mem (rise_put h) (mem_put.2 (.inr ⟨getA_mem hg, hne⟩))

theorem getA_del_same : getA n (delA n l) = none := getA_none_of fun _ hp => (mem_del.1 hp).2

theorem getA_del_other (h : Rise l) (hne : m ≠ n) : getA m (delA n l) = getA m l := by
  cases hg : getA m l with
  | none => exact getA_none_of fun p hp e => getA_none hg p (mem_del.1 hp).1 e
  | some b => exact getA_of_mem (rise_del h) (mem_del.2 ⟨getA_mem hg, hne⟩)

/-- A relation between any two. -/
theorem pair_ins {R : Nm × α → Nm × α → Prop} {x : Nm × α} (h : l.Pairwise R) (h1 : ∀ p ∈ l, R x p) (h2 : ∀ p ∈ l, R p x) : (insA x l).Pairwise R := by
  induction l with
  | nil => simp [insA]
  | cons y r ih =>
    rw [List.pairwise_cons] at h
    unfold insA
    split
    · exact List.pairwise_cons.2 ⟨h1, List.pairwise_cons.2 h⟩
    · refine List.pairwise_cons.2 ⟨fun q hq => ?_, ih h.2 (fun q hq => h1 q (List.mem_cons_of_mem _ hq)) (fun q hq => h2 q (List.mem_cons_of_mem _ hq))⟩
      rcases mem_ins.1 hq with rfl | hq
      · exact h2 y (by simp)
      · exact h.1 q hq

theorem pair_del {R : Nm × α → Nm × α → Prop} (h : l.Pairwise R) : (delA n l).Pairwise R := List.Pairwise.filter _ h

theorem pair_put {R : Nm × α → Nm × α → Prop} (h : l.Pairwise R) (h1 : ∀ p ∈ l, p.1 ≠ n → R (n, a) p) (h2 : ∀ p ∈ l, p.1 ≠ n → R p (n, a)) : (putA n a l).Pairwise R :=
  pair_ins (pair_del h) (fun p hp => h1 p (mem_del.1 hp).1 (mem_del.1 hp).2) (fun p hp => h2 p (mem_del.1 hp).1 (mem_del.1 hp).2)
end

abbrev Fs := List (Nm × List UInt8)

/-- How many bytes all files have. -/
def tot (l : Fs) : Nat := (l.map fun p => p.2.length).sum

theorem tot_ins (x : Nm × List UInt8) (l : Fs) : tot (insA x l) = x.2.length + tot l := by
  induction l with
  | nil => simp [insA, tot]
  | cons y r ih =>
    unfold insA
    split
    · simp [tot]
    · unfold tot at ih ⊢
      rw [List.map_cons, List.sum_cons, ih, List.map_cons, List.sum_cons]
      omega

theorem tot_del (n : Nm) (l : Fs) (h : Rise l) : tot (delA n l) + ((getA n l).getD []).length = tot l := by
  induction l with
  | nil => simp [delA, tot, getA]
  | cons y r ih =>
    unfold Rise at h
    rw [List.pairwise_cons] at h
    have ih := ih h.2
    by_cases he : y.1 = n
    · have hn : getA n r = none := getA_none_of fun p hp e => before_ne (h.1 p hp) (by rw [he, e])
      have e1 : delA n (y :: r) = delA n r := by simp [delA, he]
      have e2 : getA n (y :: r) = some y.2 := by simp [getA, he]
      rw [e1, e2]
      rw [hn] at ih
      simp [tot] at ih ⊢
      omega
    · have e1 : delA n (y :: r) = y :: delA n r := by simp [delA, he]
      have e2 : getA n (y :: r) = getA n r := by simp [getA, he]
      rw [e1, e2]
      simp only [tot, List.map_cons, List.sum_cons] at ih ⊢
      omega

theorem tot_put (n : Nm) (t : List UInt8) (l : Fs) (h : Rise l) : tot (putA n t l) + ((getA n l).getD []).length = tot l + t.length := by
  rw [putA, tot_ins]
  have := tot_del n l h
  simp only
  omega

theorem tot_get {n : Nm} {t : List UInt8} {l : Fs} (h : (n, t) ∈ l) : t.length ≤ tot l := by
  induction l with
  | nil => cases h
  | cons y r ih =>
    simp only [tot, List.map_cons, List.sum_cons] at ih ⊢
    rcases List.mem_cons.1 h with rfl | h
    · simp
    · have := ih h
      omega

theorem tot_le {l : Fs} {k : Nat} (h : ∀ p ∈ l, p.2.length ≤ k) : tot l ≤ l.length * k := by
  induction l with
  | nil => simp [tot]
  | cons y r ih =>
    have h1 := ih fun p hp => h p (List.mem_cons_of_mem _ hp)
    have h2 := h y (by simp)
    simp only [tot, List.map_cons, List.sum_cons, List.length_cons, Nat.add_mul] at h1 ⊢
    omega

/-- Bytes laid over a text from a place on. -/
def layT (t : List UInt8) (a : Nat) (b : List UInt8) : List UInt8 := if b = [] then t else (t ++ List.replicate (a - t.length) 0).take a ++ b ++ t.drop (a + b.length)

theorem layT_length (t : List UInt8) (a : Nat) (b : List UInt8) (h : b ≠ []) : (layT t a b).length = max t.length (a + b.length) := by
  unfold layT
  rw [if_neg h]
  simp only [List.length_append, List.length_take, List.length_replicate, List.length_drop]
  omega

/-- An operation: 0 a write, 1 a cut, 2 a remove, 3 a rename. -/
structure AOp where
  k : Nat
  n : Nm
  q : Nm
  a : Nat
  b : List UInt8

def doA (o : AOp) (l : Fs) : Fs :=
  if o.k = 0 then putA o.n (layT ((getA o.n l).getD []) o.a o.b) l
  else match getA o.n l with
    | none => l
    | some t => if o.k = 1 then putA o.n (t.take o.a) l else if o.k = 2 then delA o.n l else putA o.q t (delA o.n l)

theorem doA_cut {l : Fs} {n q : Nm} {a : Nat} {b t : List UInt8} (h : getA n l = some t) : doA ⟨1, n, q, a, b⟩ l = putA n (t.take a) l := by simp [doA, h]
theorem doA_remove {l : Fs} {n q : Nm} {a : Nat} {b t : List UInt8} (h : getA n l = some t) : doA ⟨2, n, q, a, b⟩ l = delA n l := by simp [doA, h]
theorem doA_rename {l : Fs} {n q : Nm} {a : Nat} {b t : List UInt8} (h : getA n l = some t) : doA ⟨3, n, q, a, b⟩ l = putA q t (delA n l) := by simp [doA, h]

def doAllA (os : List AOp) (l : Fs) : Fs := os.foldl (fun l o => doA o l) l

theorem doAllA_snoc (os : List AOp) (o : AOp) (l : Fs) : doAllA (os ++ [o]) l = doA o (doAllA os l) := by simp [doAllA]

theorem rise_do (o : AOp) (l : Fs) (h : Rise l) : Rise (doA o l) := by
  unfold doA
  split
  · exact rise_put h
  · split
    · exact h
    · split
      · exact rise_put h
      · split
        · exact rise_del h
        · exact rise_put (rise_del h)

theorem length_do (o : AOp) (l : Fs) : (doA o l).length ≤ l.length + 1 := by
  unfold doA
  split
  · exact length_put
  · split
    · omega
    · split
      · exact length_put
      · split
        · exact Nat.le_succ_of_le length_del
        · have h1 := length_put (n := o.q) (a := by assumption) (l := delA o.n l)
          have h2 := length_del (n := o.n) (l := l)
          omega

/-- How long names and texts are. -/
def Fit (l : Fs) : Prop := ∀ p ∈ l, p.1.length ≤ 16 ∧ p.2.length ≤ 8388608

/-- What waits: names, places and texts within what may be. -/
def FitO (o : AOp) : Prop := o.k ≤ 3 ∧ o.n.length ≤ 16 ∧ o.q.length ≤ 16 ∧ o.a ≤ 8388608 ∧ (o.k = 0 → o.a ≤ 1048576) ∧ o.b.length ≤ 4194304 ∧ (o.k ≠ 0 → o.b = []) ∧ (1 < o.k → o.a = 0)

theorem fit_put {l : Fs} {n : Nm} {t : List UInt8} (h : Fit l) (hn : n.length ≤ 16) (ht : t.length ≤ 8388608) : Fit (putA n t l) := fun p hp => by
  rcases mem_put.1 hp with rfl | ⟨h1, _⟩
  · exact ⟨hn, ht⟩
  · exact h p h1

theorem fit_get {l : Fs} (h : Fit l) (n : Nm) : ((getA n l).getD []).length ≤ 8388608 := by
  cases hg : getA n l with
  | none => simp
  | some t => exact (h _ (getA_mem hg)).2

theorem fit_lay {l : Fs} (h : Fit l) (n : Nm) {a : Nat} {b : List UInt8} (ha : a ≤ 1048576) (hb : b.length ≤ 4194304) : (layT ((getA n l).getD []) a b).length ≤ 8388608 := by
  have h1 := fit_get h n
  by_cases hb0 : b = []
  · unfold layT
    rw [if_pos hb0]
    exact h1
  · rw [layT_length _ _ _ hb0]
    omega

theorem fit_do (o : AOp) (l : Fs) (h : Fit l) (ho : FitO o) : Fit (doA o l) := by
  obtain ⟨h0, h1, h2, h3, h4, h5, h6, h7⟩ := ho
  unfold doA
  split
  · rename_i hk
    exact fit_put h h1 (fit_lay h _ (h4 hk) h5)
  · split
    · exact h
    · rename_i t hg
      have ht := (h _ (getA_mem hg)).2
      split
      · exact fit_put h h1 (by rw [List.length_take]; simp only at ht; omega)
      · split
        · exact fun p hp => h p (mem_del.1 hp).1
        · exact fit_put (fun p hp => h p (mem_del.1 hp).1) h2 ht

theorem rise_doAll (os : List AOp) : ∀ (l : Fs), Rise l → Rise (doAllA os l) := by
  induction os with
  | nil => exact fun l h => h
  | cons o os ih => exact fun l h => ih _ (rise_do o l h)

theorem length_doAll (os : List AOp) : ∀ (l : Fs), (doAllA os l).length ≤ l.length + os.length := by
  induction os with
  | nil => exact fun l => Nat.le_refl _
  | cons o os ih =>
    intro l
    have h1 := ih (doA o l)
    have h2 := length_do o l
    simp only [doAllA, List.foldl_cons, List.length_cons] at h1 ⊢
    omega

theorem fit_doAll (os : List AOp) : ∀ (l : Fs), Fit l → (∀ o ∈ os, FitO o) → Fit (doAllA os l) := by
  induction os with
  | nil => exact fun l h _ => h
  | cons o os ih => exact fun l h ho => ih _ (fit_do o l h (ho o (by simp))) fun o' h' => ho o' (List.mem_cons_of_mem _ h')

/-- A byte that a name may have. -/
def okC (c : UInt8) : Bool := (97 ≤ c.toNat && c.toNat ≤ 122) || (48 ≤ c.toNat && c.toNat ≤ 57) || c.toNat == 46
def named (n : Nm) : Bool := 1 ≤ n.length && n.length ≤ 16 && n.all okC

/-- A disk. -/
structure St where
  now : Fs
  sure : Fs
  ops : List AOp
  room : Int
  fuse : Int
  off : Bool

def St.new (room : Int) : St := ⟨[], [], [], room, -1, false⟩

/-- The fuse burns: ErrLost or not. -/
def St.burnt (s : St) : Bool := s.fuse == 0
def St.burn (s : St) : St := if s.fuse = 0 then { s with off := true } else if 0 < s.fuse then { s with fuse := s.fuse - 1 } else s

/-- An operation is done, or the fuse is burnt. -/
def St.run (s : St) (o : AOp) : St := if s.fuse = 0 then s.burn else { s.burn with now := doA o s.now, ops := s.ops ++ [o] }
def St.said (s : St) : Nat := if s.fuse = 0 then 6 else 0

def used (l : Fs) (n : Nm) (a k : Nat) : Nat := if k = 0 then tot l else tot l - ((getA n l).getD []).length + max ((getA n l).getD []).length (a + k)

/-- What a call answers, and what is then. -/
def St.write (s : St) (n : Nm) (a : Int) (b : List UInt8) : Nat × St :=
  if s.off then (6, s) else if !named n then (1, s) else if a < 0 ∨ 1048576 < a then (9, s)
  else if max s.room 0 < (used s.now n a.toNat b.length : Int) then (7, s) else (s.said, s.run ⟨0, n, [], a.toNat, b⟩)
def St.cut (s : St) (n : Nm) (k : Int) : Nat × St :=
  if s.off then (6, s) else match getA n s.now with
    | none => (8, s)
    | some t => if k < 0 ∨ (t.length : Int) < k then (9, s) else (s.said, s.run ⟨1, n, [], k.toNat, []⟩)
def St.remove (s : St) (n : Nm) : Nat × St :=
  if s.off then (6, s) else match getA n s.now with
    | none => (8, s)
    | some _ => (s.said, s.run ⟨2, n, [], 0, []⟩)
def St.rename (s : St) (n m : Nm) : Nat × St :=
  if s.off then (6, s) else match getA n s.now with
    | none => (8, s)
    | some _ => if !named m then (1, s) else (s.said, s.run ⟨3, n, m, 0, []⟩)
def St.sync (s : St) : Nat × St :=
  if s.off then (6, s) else if s.fuse = 0 then (6, s.burn) else (0, { s.burn with sure := s.now, ops := [] })

def St.read (s : St) (n : Nm) : Nat × List UInt8 :=
  if s.off then (6, []) else match getA n s.now with
    | none => (8, [])
    | some t => (0, t)

/-- What is kept: those whose place is true, the last of them in part. -/
def keptA : List AOp → List Bool → List AOp
  | [], _ => []
  | _, [] => []
  | o :: os, k :: ks => if k then o :: keptA os ks else keptA os ks
def tornA (torn : Int) : List AOp → List AOp
  | [] => []
  | [o] => [{ o with b := o.b.take (max torn 0).toNat }]
  | o :: o' :: os => o :: tornA torn (o' :: os)
def St.crash (s : St) (keep : List Bool) (torn : Int) : St :=
  let l := doAllA (tornA torn (keptA s.ops keep)) s.sure
  ⟨l, l, [], s.room, -1, false⟩

/-- What holds of a disk between calls; c: no more than so many operations, since it was made. -/
structure Ok (c : Nat) (s : St) : Prop where
  now : s.now = doAllA s.ops s.sure
  rise : Rise s.sure
  fit : Fit s.sure
  fitO : ∀ o ∈ s.ops, FitO o
  few : s.sure.length + s.ops.length ≤ c

theorem Ok.riseN {c : Nat} {s : St} (h : Ok c s) : Rise s.now := by rw [h.now]; exact rise_doAll _ _ h.rise
theorem Ok.fitN {c : Nat} {s : St} (h : Ok c s) : Fit s.now := by rw [h.now]; exact fit_doAll _ _ h.fit h.fitO
theorem Ok.fewN {c : Nat} {s : St} (h : Ok c s) : s.now.length ≤ c := by
  rw [h.now]
  exact Nat.le_trans (length_doAll _ _) h.few

end Go.Proofs.Ytboongdoggggoaa.DiskMath
