/- What layers 10 and 11 stand on, as plain functions: one text on a disk that is put in the place of another. No program is named here. -/
import Derived.Test.YtboongdoggggoaaDiskMath
namespace Go.Proofs.Ytboongdoggggoaa.SwapMath
set_option maxRecDepth 20000
open Go DiskMath

/-- An owner's name. -/
def wn (q : Nm) : Prop := 1 ≤ q.length ∧ q.length ≤ 4 ∧ ∀ c ∈ q, 97 ≤ c.toNat ∧ c.toNat ≤ 122
instance (q : Nm) : Decidable (wn q) := by unfold wn; infer_instance
def lowC (c : UInt8) : Bool := 97 ≤ c.toNat && c.toNat ≤ 122
def wnB (q : Nm) : Bool := 1 ≤ q.length && q.length ≤ 4 && q.all lowC

theorem wnB_wn (q : Nm) : wnB q = true ↔ wn q := by
  unfold wnB wn
  simp only [Bool.and_eq_true, decide_eq_true_eq, List.all_eq_true, lowC]
  constructor
  · rintro ⟨⟨h1, h2⟩, h3⟩
    exact ⟨h1, h2, h3⟩
  · rintro ⟨h1, h2, h3⟩
    exact ⟨⟨h1, h2⟩, h3⟩

def nowN (q : Nm) : Nm := q ++ [46, 110, 111, 119]
def newN (q : Nm) : Nm := q ++ [46, 110, 101, 119]

theorem now_new {q : Nm} : nowN q ≠ newN q := fun h => by
  have h1 := List.append_cancel_left h
  revert h1
  decide

theorem okC_name {q : Nm} (hq : wn q) : q.all okC = true := by
  rw [List.all_eq_true]
  intro c hc
  have h := hq.2.2 c hc
  unfold okC
  simp [h.1, h.2]

theorem now_len {q : Nm} (hq : wn q) : 1 ≤ (nowN q).length ∧ (nowN q).length ≤ 16 := by
  have h2 := hq.2.1
  simp only [nowN, List.length_append, List.length_cons, List.length_nil]
  omega
theorem new_len {q : Nm} (hq : wn q) : 1 ≤ (newN q).length ∧ (newN q).length ≤ 16 := by
  have h2 := hq.2.1
  simp only [newN, List.length_append, List.length_cons, List.length_nil]
  omega
theorem now_named {q : Nm} (hq : wn q) : named (nowN q) = true := by
  have h := now_len hq
  unfold named
  simp only [h.1, h.2, decide_true, Bool.true_and]
  unfold nowN
  rw [List.all_append, okC_name hq]
  rfl
theorem new_named {q : Nm} (hq : wn q) : named (newN q) = true := by
  have h := new_len hq
  unfold named
  simp only [h.1, h.2, decide_true, Bool.true_and]
  unfold newN
  rw [List.all_append, okC_name hq]
  rfl

/-- A text, or none. -/
abbrev Tx := Option (List UInt8)

/-- Files of one that has t, beside E, which are others'. -/
structure May (q : Nm) (E F : Fs) (t : Tx) : Prop where
  rise : Rise F
  own : ∀ p ∈ F, p.1 = nowN q ∨ p.1 = newN q ∨ p ∈ E
  kept : ∀ p ∈ E, getA p.1 F = some p.2
  short : ∀ p ∈ F, p.2.length ≤ 32768
  has : getA (nowN q) F = t
  apart : ∀ p ∈ E, p.1 ≠ nowN q ∧ p.1 ≠ newN q
  lone : E.length ≤ 1

theorem may_nil (q : Nm) : May q [] [] none := ⟨List.Pairwise.nil, fun p hp => (by cases hp), fun p hp => (by cases hp), fun p hp => (by cases hp), rfl, fun p hp => (by cases hp), by simp⟩

theorem nodup_sub : ∀ (l L : List Nm), l.Nodup → (∀ x ∈ l, x ∈ L) → l.length ≤ L.length
  | [], _, _, _ => Nat.zero_le _
  | a :: l, L, hn, hs => by
    obtain ⟨h1, h2⟩ := List.nodup_cons.1 hn
    have h3 := nodup_sub l (L.erase a) h2 fun x hx => (List.mem_erase_of_ne (fun e => h1 (by rw [← e]; exact hx))).2 (hs x (List.mem_cons_of_mem _ hx))
    have h4 := List.length_erase_of_mem (hs a (by simp))
    have h5 := List.length_pos_of_mem (hs a (by simp))
    simp only [List.length_cons]
    omega

theorem rise_nodup {F : Fs} (h : Rise F) : (F.map (·.1)).Nodup := by
  unfold List.Nodup
  rw [List.pairwise_map]
  exact List.Pairwise.imp (fun h => before_ne h) h

theorem May.few {q : Nm} {E F : Fs} {t : Tx} (hm : May q E F t) : F.length ≤ 3 := by
  have h1 := nodup_sub (F.map (·.1)) (nowN q :: newN q :: E.map (·.1)) (rise_nodup hm.rise) fun x hx => by
    obtain ⟨p, hp, rfl⟩ := List.mem_map.1 hx
    rcases hm.own p hp with e | e | e
    · simp [e]
    · simp [e]
    · exact List.mem_cons_of_mem _ (List.mem_cons_of_mem _ (List.mem_map.2 ⟨p, e, rfl⟩))
  have h2 := hm.lone
  simp only [List.length_map, List.length_cons] at h1
  omega

theorem May.tot {q : Nm} {E F : Fs} {t : Tx} (hm : May q E F t) : tot F ≤ 98304 := by
  have h1 := tot_le (l := F) (k := 32768) hm.short
  have h2 := hm.few
  omega

theorem May.text {q : Nm} {E F : Fs} {t : Tx} (hm : May q E F t) : (t.getD []).length ≤ 32768 := by
  have h := hm.has
  cases hg : getA (nowN q) F with
  | none => rw [hg] at h; subst h; simp
  | some x => rw [hg] at h; subst h; exact hm.short _ (getA_mem hg)

theorem layT_zero (t b : List UInt8) : layT t 0 b = b ++ t.drop b.length := by
  unfold layT
  by_cases h : b = []
  · subst h; simp
  · rw [if_neg h]; simp

theorem doA_write {F : Fs} {n : Nm} {b : List UInt8} : doA ⟨0, n, [], 0, b⟩ F = putA n (b ++ ((getA n F).getD []).drop b.length) F := by
  unfold doA
  rw [if_pos rfl, layT_zero]


/-- What is written beside is nothing to it. -/
theorem May.put_new {q : Nm} {E F : Fs} {t : Tx} (hm : May q E F t) (l : List UInt8) (hl : l.length ≤ 32768) : May q E (putA (newN q) l F) t where
  rise := rise_put hm.rise
  own p hp := by
    rcases mem_put.1 hp with rfl | ⟨h1, _⟩
    · exact .inr (.inl rfl)
    · exact hm.own p h1
  kept p hp := by rw [getA_put_other hm.rise (hm.apart p hp).2]; exact hm.kept p hp
  short p hp := by
    rcases mem_put.1 hp with rfl | ⟨h1, _⟩
    · exact hl
    · exact hm.short p h1
  has := by rw [getA_put_other hm.rise now_new]; exact hm.has
  apart := hm.apart
  lone := hm.lone

theorem May.del_new {q : Nm} {E F : Fs} {t : Tx} (hm : May q E F t) : May q E (delA (newN q) F) t where
  rise := rise_del hm.rise
  own p hp := hm.own p (mem_del.1 hp).1
  kept p hp := by rw [getA_del_other hm.rise (hm.apart p hp).2]; exact hm.kept p hp
  short p hp := hm.short p (mem_del.1 hp).1
  has := by rw [getA_del_other hm.rise now_new]; exact hm.has
  apart := hm.apart
  lone := hm.lone

theorem May.old {q : Nm} {E F : Fs} {t : Tx} (hm : May q E F t) : ((getA (newN q) F).getD []).length ≤ 32768 := by
  cases hg : getA (newN q) F with
  | none => simp
  | some x => exact hm.short _ (getA_mem hg)

/-- An operation on what lies beside. -/
def Beside (q : Nm) (o : AOp) : Prop := o.n = newN q ∧ ((o.k = 0 ∧ o.a = 0 ∧ o.b.length ≤ 32768) ∨ o.k = 1 ∨ o.k = 2)

theorem Beside.take {q : Nm} {o : AOp} (h : Beside q o) (n : Nat) : Beside q { o with b := o.b.take n } := by
  obtain ⟨h1, h2⟩ := h
  refine ⟨h1, ?_⟩
  rcases h2 with ⟨a, b, c⟩ | h2
  · exact .inl ⟨a, b, by simp only [List.length_take]; omega⟩
  · exact .inr h2

theorem May.beside {q : Nm} {E F : Fs} {t : Tx} (hm : May q E F t) {o : AOp} (ho : Beside q o) : May q E (doA o F) t := by
  obtain ⟨k, n, p, a, b⟩ := o
  obtain ⟨h1, h2⟩ := ho
  simp only at h1 h2
  subst h1
  rcases h2 with ⟨rfl, rfl, hb⟩ | rfl | rfl
  · unfold doA
    rw [if_pos rfl]
    refine hm.put_new _ ?_
    rw [layT_zero, List.length_append, List.length_drop]
    have := hm.old
    simp only at this ⊢
    omega
  · cases hg : getA (newN q) F with
    | none => simp [doA, hg]; exact hm
    | some x =>
      rw [doA_cut hg]
      refine hm.put_new _ ?_
      have := hm.short _ (getA_mem hg)
      rw [List.length_take]
      simp only at this
      omega
  · cases hg : getA (newN q) F with
    | none => simp [doA, hg]; exact hm
    | some x =>
      rw [doA_remove hg]
      exact hm.del_new

theorem May.besides {q : Nm} {E : Fs} {t : Tx} : ∀ (os : List AOp) {F : Fs}, May q E F t → (∀ o ∈ os, Beside q o) → May q E (doAllA os F) t
  | [], _, hm, _ => hm
  | o :: os, F, hm, h => by
    have h1 := hm.beside (h o (by simp))
    have h2 := May.besides os h1 fun x hx => h x (List.mem_cons_of_mem _ hx)
    simpa [doAllA] using h2

theorem kept_sub : ∀ (os : List AOp) (ks : List Bool), ∀ o ∈ keptA os ks, o ∈ os
  | [], _, o, h => by simp [keptA] at h
  | x :: os, [], o, h => by simp [keptA] at h
  | x :: os, k :: ks, o, h => by
    cases k with
    | true =>
      simp [keptA] at h
      rcases h with rfl | h
      · simp
      · exact List.mem_cons_of_mem _ (kept_sub os ks o h)
    | false =>
      simp [keptA] at h
      exact List.mem_cons_of_mem _ (kept_sub os ks o h)

theorem torn_sub (torn : Int) : ∀ (os : List AOp), ∀ o ∈ tornA torn os, ∃ x ∈ os, o = x ∨ o = { x with b := x.b.take (max torn 0).toNat }
  | [], o, h => by simp [tornA] at h
  | [x], o, h => by
    simp [tornA] at h
    exact ⟨x, by simp, .inr h⟩
  | x :: y :: os, o, h => by
    simp only [tornA, List.mem_cons] at h
    rcases h with rfl | h
    · exact ⟨o, by simp, .inl rfl⟩
    · obtain ⟨z, h1, h2⟩ := torn_sub torn (y :: os) o h
      exact ⟨z, List.mem_cons_of_mem _ h1, h2⟩

/-- Whatever a crash keeps of what lies beside. -/
theorem May.crash {q : Nm} {E : Fs} {s : St} {t : Tx} (hm : May q E s.sure t) (ho : ∀ o ∈ s.ops, Beside q o) (keep : List Bool) (torn : Int) : May q E (s.crash keep torn).now t := by
  unfold St.crash
  refine hm.besides _ fun o h => ?_
  obtain ⟨x, h1, h2⟩ := torn_sub torn _ o h
  have h3 := ho x (kept_sub _ _ x h1)
  rcases h2 with rfl | rfl
  · exact h3
  · exact h3.take _

def opW (q : Nm) (b : List UInt8) : AOp := ⟨0, newN q, [], 0, b⟩
def opC (q : Nm) (b : List UInt8) : AOp := ⟨1, newN q, [], b.length, []⟩
def opD (q : Nm) : AOp := ⟨2, newN q, [], 0, []⟩
def opR (q : Nm) : AOp := ⟨3, newN q, nowN q, 0, []⟩

/-- It takes the other's place. -/
theorem May.renamed {q : Nm} {E F : Fs} {t : Tx} (hm : May q E F t) {b : List UInt8} (hg : getA (newN q) F = some b) : May q E (doA (opR q) F) (some b) := by
  unfold opR
  rw [doA_rename hg]
  exact {
    rise := rise_put (rise_del hm.rise)
    own := fun p hp => by
      rcases mem_put.1 hp with rfl | ⟨h1, _⟩
      · exact .inl rfl
      · exact hm.own p (mem_del.1 h1).1
    kept := fun p hp => by
      rw [getA_put_other (rise_del hm.rise) (hm.apart p hp).1, getA_del_other hm.rise (hm.apart p hp).2]
      exact hm.kept p hp
    short := fun p hp => by
      rcases mem_put.1 hp with rfl | ⟨h1, _⟩
      · exact hm.short (newN q, b) (getA_mem hg)
      · exact hm.short p (mem_del.1 h1).1
    has := getA_put_same (rise_del hm.rise)
    apart := hm.apart
    lone := hm.lone }

/-- A step of a disk that is up. -/
theorem run_cases (s : St) (o : AOp) (h : s.off = false) : (s.fuse = 0 ∧ s.said = 6 ∧ s.run o = { s with off := true }) ∨
    (s.fuse ≠ 0 ∧ s.said = 0 ∧ (s.run o).now = doA o s.now ∧ (s.run o).sure = s.sure ∧ (s.run o).ops = s.ops ++ [o] ∧ (s.run o).room = s.room ∧ (s.run o).off = false ∧ (s.fuse = -1 → (s.run o).fuse = -1)) := by
  by_cases h0 : s.fuse = 0
  · exact .inl ⟨h0, by simp [St.said, h0], by simp [St.run, St.burn, h0]⟩
  · refine .inr ⟨h0, by simp [St.said, h0], ?_⟩
    unfold St.run St.burn
    rw [if_neg h0, if_neg h0]
    refine ⟨rfl, ?_, rfl, ?_, ?_, fun hf => ?_⟩
    · split <;> rfl
    · split <;> rfl
    · split <;> exact h
    · rw [if_neg (by omega)]; exact hf

theorem sync_cases (s : St) (h : s.off = false) : (s.fuse = 0 ∧ s.sync = (6, { s with off := true })) ∨
    (s.fuse ≠ 0 ∧ s.sync.1 = 0 ∧ s.sync.2.now = s.now ∧ s.sync.2.sure = s.now ∧ s.sync.2.ops = [] ∧ s.sync.2.room = s.room ∧ s.sync.2.off = false ∧ (s.fuse = -1 → s.sync.2.fuse = -1)) := by
  by_cases h0 : s.fuse = 0
  · exact .inl ⟨h0, by simp [St.sync, St.burn, h0, h]⟩
  · refine .inr ⟨h0, ?_⟩
    unfold St.sync St.burn
    rw [if_neg (by simp [h]), if_neg h0, if_neg h0]
    refine ⟨rfl, ?_, rfl, rfl, ?_, ?_, fun hf => ?_⟩
    · simp only; split <;> rfl
    · simp only; split <;> rfl
    · simp only; split <;> exact h
    · simp only; rw [if_neg (by omega)]; exact hf

theorem write_eq {q : Nm} (hq : wn q) {E : Fs} {t : Tx} {s : St} (hm : May q E s.now t) (ho : s.off = false) (hR : 262144 ≤ s.room) (b : List UInt8) (hb : b.length ≤ 32768) : s.write (newN q) 0 b = (s.said, s.run (opW q b)) := by
  have h2 := hm.tot
  have h3 : used s.now (newN q) (0 : Int).toNat b.length ≤ 262144 := by
    unfold used
    have h4 := hm.old
    split
    · omega
    · simp only [Int.toNat_zero]
      omega
  unfold St.write
  rw [if_neg (by simp [ho]), new_named hq]
  rw [if_neg (by simp), if_neg (by omega), if_neg (by omega)]
  rfl

theorem cut_eq {q : Nm} {s : St} (ho : s.off = false) {b r : List UInt8} (hg : getA (newN q) s.now = some (b ++ r)) : s.cut (newN q) (b.length : Int) = (s.said, s.run (opC q b)) := by
  unfold St.cut
  rw [if_neg (by simp [ho]), hg]
  simp only
  rw [if_neg (by rw [List.length_append]; omega)]
  rfl

theorem rename_eq {q : Nm} (hq : wn q) {s : St} (ho : s.off = false) {b : List UInt8} (hg : getA (newN q) s.now = some b) : s.rename (newN q) (nowN q) = (s.said, s.run (opR q)) := by
  unfold St.rename
  rw [if_neg (by simp [ho]), hg]
  simp only [now_named hq]
  rfl

/-- Put, asked of a disk. -/
def swA (q : Nm) (s : St) (b : List UInt8) : Nat × St :=
  if (s.write (newN q) 0 b).1 ≠ 0 then s.write (newN q) 0 b
  else if ((s.write (newN q) 0 b).2.cut (newN q) b.length).1 ≠ 0 then (s.write (newN q) 0 b).2.cut (newN q) b.length
  else if ((s.write (newN q) 0 b).2.cut (newN q) b.length).2.sync.1 ≠ 0 then ((s.write (newN q) 0 b).2.cut (newN q) b.length).2.sync
  else if (((s.write (newN q) 0 b).2.cut (newN q) b.length).2.sync.2.rename (newN q) (nowN q)).1 ≠ 0 then ((s.write (newN q) 0 b).2.cut (newN q) b.length).2.sync.2.rename (newN q) (nowN q)
  else (((s.write (newN q) 0 b).2.cut (newN q) b.length).2.sync.2.rename (newN q) (nowN q)).2.sync

/-- Its steps. -/
theorem swA_steps (q : Nm) (s : St) (b : List UInt8) : ∃ x1 s1 x2 s2 x3 s3 x4 s4 x5 s5, s.write (newN q) 0 b = (x1, s1) ∧ s1.cut (newN q) b.length = (x2, s2) ∧ s2.sync = (x3, s3) ∧ s3.rename (newN q) (nowN q) = (x4, s4) ∧ s4.sync = (x5, s5) ∧
    swA q s b = if x1 ≠ 0 then (x1, s1) else if x2 ≠ 0 then (x2, s2) else if x3 ≠ 0 then (x3, s3) else if x4 ≠ 0 then (x4, s4) else (x5, s5) := ⟨_, _, _, _, _, _, _, _, _, _, rfl, rfl, rfl, rfl, rfl, rfl⟩

/-- A disk between calls, with one that has t. -/
structure Idle (q : Nm) (E : Fs) (s : St) (t : Tx) : Prop where
  off : s.off = false
  now : May q E s.now t
  sure : May q E s.sure t
  ops : ∀ o ∈ s.ops, Beside q o
  few : s.ops.length ≤ 1

/-- Nothing waits, or nothing lies beside. -/
def Fresh (q : Nm) (E : Fs) (s : St) (t : Tx) : Prop := Idle q E s t ∧ (s.ops = [] ∨ getA (newN q) s.now = none)

/-- A call was lost that would have put t'. -/
structure Gone (q : Nm) (E : Fs) (s : St) (t t' : Tx) : Prop where
  off : s.off = true
  few : s.sure.length + s.ops.length ≤ 6
  good : ∀ keep torn, May q E (s.crash keep torn).now t ∨ May q E (s.crash keep torn).now t'

theorem fresh_of {q : Nm} {E : Fs} {s : St} {t : Tx} {keep : List Bool} {torn : Int} (hm : May q E (s.crash keep torn).now t) : Fresh q E (s.crash keep torn) t :=
  ⟨⟨rfl, hm, hm, fun o h => (by simp [St.crash] at h), by simp [St.crash]⟩, .inl rfl⟩

theorem Gone.crash {q : Nm} {E : Fs} {s : St} {t t' : Tx} (hg : Gone q E s t t') (keep : List Bool) (torn : Int) : Fresh q E (s.crash keep torn) t ∨ Fresh q E (s.crash keep torn) t' :=
  (hg.good keep torn).imp fresh_of fresh_of

theorem Idle.crash {q : Nm} {E : Fs} {s : St} {t : Tx} (hi : Idle q E s t) (keep : List Bool) (torn : Int) : Fresh q E (s.crash keep torn) t := fresh_of (hi.sure.crash hi.ops keep torn)

theorem Idle.counts {q : Nm} {E : Fs} {s : St} {t : Tx} (hi : Idle q E s t) : s.sure.length + s.ops.length ≤ 6 := by
  have := hi.sure.few
  have := hi.few
  omega

theorem Idle.fuse {q : Nm} {E : Fs} {s : St} {t : Tx} (hi : Idle q E s t) (x : Int) : Idle q E { s with fuse := x } t := ⟨hi.off, hi.now, hi.sure, hi.ops, hi.few⟩
theorem Fresh.fuse {q : Nm} {E : Fs} {s : St} {t : Tx} (hi : Fresh q E s t) (x : Int) : Fresh q E { s with fuse := x } t := ⟨hi.1.fuse x, hi.2⟩

theorem fresh_new (q : Nm) (R : Int) : Fresh q [] (St.new R) none := ⟨⟨rfl, may_nil q, may_nil q, fun o h => (by simp [St.new] at h), by simp [St.new]⟩, .inl rfl⟩

/-- How Put ends. -/
theorem put_idle {q : Nm} (hq : wn q) {E : Fs} {s : St} {t : Tx} {b : List UInt8} (hi : Idle q E s t) (hb : b.length ≤ 32768) (hR : 262144 ≤ s.room) :
    (((swA q s b).1 = 0 ∧ Fresh q E (swA q s b).2 (some b)) ∨ ((swA q s b).1 = 6 ∧ s.fuse ≠ -1 ∧ Gone q E (swA q s b).2 t (some b))) ∧ (swA q s b).2.room = s.room ∧ (s.fuse = -1 → (swA q s b).2.fuse = -1) := by
  obtain ⟨x1, s1, x2, s2, x3, s3, x4, s4, x5, s5, e1, e2, e3, e4, e5, e6⟩ := swA_steps q s b
  rw [e6]
  have hf := hi.few
  have hsf := hi.sure.few
  have hbw : Beside q (opW q b) := ⟨rfl, .inl ⟨rfl, rfl, hb⟩⟩
  have hbc : Beside q (opC q b) := ⟨rfl, .inr (.inl rfl)⟩
  rw [write_eq hq hi.now hi.off hR b hb] at e1
  rcases run_cases s (opW q b) hi.off with ⟨f0, hs, hr⟩ | ⟨f0, hs, n1, u1, o1, r1, off1, c1⟩
  · rw [hs, hr] at e1
    obtain ⟨rfl, rfl⟩ := Prod.mk.inj e1
    rw [if_pos (by decide)]
    exact ⟨.inr ⟨rfl, by omega, ⟨rfl, by show s.sure.length + s.ops.length ≤ 6; omega, fun keep torn => .inl (May.crash (s := { s with off := true }) hi.sure hi.ops keep torn)⟩⟩, rfl, fun h => by omega⟩
  rw [hs] at e1
  obtain ⟨rfl, rfl⟩ := Prod.mk.inj e1
  rw [if_neg (by simp)]
  have m1 : May q E (s.run (opW q b)).now t := by rw [n1]; exact hi.now.beside hbw
  have g1 : ∃ r, getA (newN q) (s.run (opW q b)).now = some (b ++ r) := by
    rw [n1]
    unfold opW
    rw [doA_write, getA_put_same hi.now.rise]
    exact ⟨_, rfl⟩
  obtain ⟨r, g1⟩ := g1
  have su1 : May q E (s.run (opW q b)).sure t := by rw [u1]; exact hi.sure
  have b1 : ∀ o ∈ (s.run (opW q b)).ops, Beside q o := by
    rw [o1]
    intro o ho
    rcases List.mem_append.1 ho with h | h
    · exact hi.ops o h
    · simp at h; subst h; exact hbw
  have l1 : (s.run (opW q b)).ops.length ≤ 2 := by rw [o1]; simp; omega
  have us1 : (s.run (opW q b)).sure.length ≤ 3 := by rw [u1]; exact hsf
  rw [← r1]
  have c1' : s.fuse = -1 → (s.run (opW q b)).fuse = -1 := c1
  obtain ⟨S1, hS1⟩ : ∃ S1, S1 = s.run (opW q b) := ⟨_, rfl⟩
  rw [← hS1] at e2 m1 g1 su1 b1 l1 us1 off1 c1' ⊢
  clear hS1 n1 u1 o1 r1 c1 hs hi hf hsf hR
  rw [cut_eq off1 g1] at e2
  rcases run_cases S1 (opC q b) off1 with ⟨f1, hs, hr⟩ | ⟨f1, hs, n1, u1, o1, r1, off2, c2⟩
  · rw [hs, hr] at e2
    obtain ⟨rfl, rfl⟩ := Prod.mk.inj e2
    rw [if_pos (by decide)]
    exact ⟨.inr ⟨rfl, fun h => by have := c1' h; omega, ⟨rfl, by show S1.sure.length + S1.ops.length ≤ 6; omega, fun keep torn => .inl (May.crash (s := { S1 with off := true }) su1 b1 keep torn)⟩⟩, rfl, fun h => by have := c1' h; omega⟩
  rw [hs] at e2
  obtain ⟨rfl, rfl⟩ := Prod.mk.inj e2
  rw [if_neg (by simp)]
  have m2 : May q E (S1.run (opC q b)).now t := by rw [n1]; exact m1.beside hbc
  have g2 : getA (newN q) (S1.run (opC q b)).now = some b := by
    rw [n1]
    unfold opC
    rw [doA_cut g1, getA_put_same m1.rise, List.take_left]
  have su2 : May q E (S1.run (opC q b)).sure t := by rw [u1]; exact su1
  have b2 : ∀ o ∈ (S1.run (opC q b)).ops, Beside q o := by
    rw [o1]
    intro o ho
    rcases List.mem_append.1 ho with h | h
    · exact b1 o h
    · simp at h; subst h; exact hbc
  have l2 : (S1.run (opC q b)).ops.length ≤ 3 := by rw [o1]; simp; omega
  have us2 : (S1.run (opC q b)).sure.length ≤ 3 := by rw [u1]; exact us1
  rw [← r1]
  have c2' : s.fuse = -1 → (S1.run (opC q b)).fuse = -1 := fun h => c2 (c1' h)
  obtain ⟨S2, hS2⟩ : ∃ S2, S2 = S1.run (opC q b) := ⟨_, rfl⟩
  rw [← hS2] at e3 m2 g2 su2 b2 l2 us2 off2 c2' ⊢
  clear hS2 n1 u1 o1 r1 c2 hs m1 g1 su1 b1 l1 us1
  rcases sync_cases S2 off2 with ⟨f2, hs⟩ | ⟨f2, hs, n1, u1, o1, r1, off3, c3⟩
  · rw [hs] at e3
    obtain ⟨rfl, rfl⟩ := Prod.mk.inj e3
    rw [if_pos (by decide)]
    exact ⟨.inr ⟨rfl, fun h => by have := c2' h; omega, ⟨rfl, by show S2.sure.length + S2.ops.length ≤ 6; omega, fun keep torn => .inl (May.crash (s := { S2 with off := true }) su2 b2 keep torn)⟩⟩, rfl, fun h => by have := c2' h; omega⟩
  rw [e3] at hs n1 u1 o1 r1 off3 c3
  simp only at hs n1 u1 o1 r1 off3 c3
  subst hs
  rw [if_neg (by simp)]
  have m3 : May q E s3.now t := by rw [n1]; exact m2
  have su3 : May q E s3.sure t := by rw [u1]; exact m2
  have g3 : getA (newN q) s3.now = some b := by rw [n1]; exact g2
  have us3 : s3.sure = s3.now := by rw [u1, n1]
  rw [← r1]
  have c3' : s.fuse = -1 → s3.fuse = -1 := fun h => c3 (c2' h)
  clear n1 u1 r1 c3 m2 g2 su2 b2 l2 us2 e3
  have fl3 := su3.few
  rw [rename_eq hq off3 g3] at e4
  rcases run_cases s3 (opR q) off3 with ⟨f3, hs, hr⟩ | ⟨f3, hs, n1, u1, o2, r1, off4, c4⟩
  · rw [hs, hr] at e4
    obtain ⟨rfl, rfl⟩ := Prod.mk.inj e4
    rw [if_pos (by decide)]
    exact ⟨.inr ⟨rfl, fun h => by have := c3' h; omega, ⟨rfl, by show s3.sure.length + s3.ops.length ≤ 6; rw [o1]; simp; omega, fun keep torn => .inl (May.crash (s := { s3 with off := true }) su3 (by show ∀ o ∈ s3.ops, _; rw [o1]; intro o h; simp at h) keep torn)⟩⟩, rfl, fun h => by have := c3' h; omega⟩
  rw [hs] at e4
  obtain ⟨rfl, rfl⟩ := Prod.mk.inj e4
  rw [if_neg (by simp)]
  have m4 : May q E (s3.run (opR q)).now (some b) := by rw [n1]; exact m3.renamed g3
  have su4 : May q E (s3.run (opR q)).sure t := by rw [u1]; exact su3
  have su4' : May q E (doA (opR q) (s3.run (opR q)).sure) (some b) := by rw [u1, us3]; exact m3.renamed g3
  have o4 : (s3.run (opR q)).ops = [opR q] := by rw [o2, o1]; rfl
  have us4 : (s3.run (opR q)).sure.length ≤ 3 := by rw [u1]; exact fl3
  rw [← r1]
  have c4' : s.fuse = -1 → (s3.run (opR q)).fuse = -1 := fun h => c4 (c3' h)
  obtain ⟨S4, hS4⟩ : ∃ S4, S4 = s3.run (opR q) := ⟨_, rfl⟩
  rw [← hS4] at e5 m4 su4 su4' o4 us4 off4 c4' ⊢
  clear hS4 n1 u1 o1 o2 r1 c4 hs m3 g3 su3 us3
  rcases sync_cases S4 off4 with ⟨f4, hs⟩ | ⟨f4, hs, n1, u1, o1, r1, off5, c5⟩
  · rw [hs] at e5
    obtain ⟨rfl, rfl⟩ := Prod.mk.inj e5
    refine ⟨.inr ⟨rfl, fun h => by have := c4' h; omega, ⟨rfl, by show S4.sure.length + S4.ops.length ≤ 6; rw [o4]; simp; omega, fun keep torn => ?_⟩⟩, rfl, fun h => by have := c4' h; omega⟩
    have hcr : (({ S4 with off := true } : St).crash keep torn).now = S4.sure ∨ (({ S4 with off := true } : St).crash keep torn).now = doA (opR q) S4.sure := by
      unfold St.crash
      simp only [o4]
      cases keep with
      | nil => left; simp [keptA, tornA, doAllA]
      | cons k ks =>
        cases k with
        | true => right; simp [keptA, tornA, doAllA, opR]
        | false => left; simp [keptA, tornA, doAllA]
    rcases hcr with e | e
    · rw [e]; exact .inl su4
    · rw [e]; exact .inr su4'
  rw [e5] at hs n1 u1 o1 r1 off5 c5
  simp only at hs n1 u1 o1 r1 off5 c5
  subst hs
  exact ⟨.inl ⟨rfl, ⟨off5, by rw [n1]; exact m4, by rw [u1]; exact m4, by rw [o1]; intro o h; simp at h, by rw [o1]; simp⟩, .inl o1⟩, r1, fun h => c5 (c4' h)⟩

/-- Without a fuse. -/
theorem put_calm {q : Nm} (hq : wn q) {E : Fs} {s : St} {t : Tx} {b : List UInt8} (ho : s.off = false) (hm : May q E s.now t) (hf : s.fuse = -1) (hb : b.length ≤ 32768) (hR : 262144 ≤ s.room) :
    (swA q s b).1 = 0 ∧ May q E (swA q s b).2.now (some b) ∧ (swA q s b).2.off = false := by
  obtain ⟨x1, s1, x2, s2, x3, s3, x4, s4, x5, s5, e1, e2, e3, e4, e5, e6⟩ := swA_steps q s b
  rw [e6]
  have hbw : Beside q (opW q b) := ⟨rfl, .inl ⟨rfl, rfl, hb⟩⟩
  have hbc : Beside q (opC q b) := ⟨rfl, .inr (.inl rfl)⟩
  rw [write_eq hq hm ho hR b hb] at e1
  rcases run_cases s (opW q b) ho with ⟨f0, _⟩ | ⟨f0, hs, n1, u1, o1, r1, off1, c1⟩
  · omega
  rw [hs] at e1
  obtain ⟨rfl, rfl⟩ := Prod.mk.inj e1
  rw [if_neg (by simp)]
  have m1 : May q E (s.run (opW q b)).now t := by rw [n1]; exact hm.beside hbw
  have g1 : ∃ r, getA (newN q) (s.run (opW q b)).now = some (b ++ r) := by
    rw [n1]
    unfold opW
    rw [doA_write, getA_put_same hm.rise]
    exact ⟨_, rfl⟩
  obtain ⟨r, g1⟩ := g1
  have c1' := c1 hf
  rw [cut_eq off1 g1] at e2
  rcases run_cases (s.run (opW q b)) (opC q b) off1 with ⟨f1, _⟩ | ⟨f1, hs, n2, u2, o2, r2, off2, c2⟩
  · omega
  rw [hs] at e2
  obtain ⟨rfl, rfl⟩ := Prod.mk.inj e2
  rw [if_neg (by simp)]
  have m2 : May q E ((s.run (opW q b)).run (opC q b)).now t := by rw [n2]; exact m1.beside hbc
  have g2 : getA (newN q) ((s.run (opW q b)).run (opC q b)).now = some b := by
    rw [n2]
    unfold opC
    rw [doA_cut g1, getA_put_same m1.rise, List.take_left]
  have c2' := c2 c1'
  rcases sync_cases _ off2 with ⟨f2, _⟩ | ⟨f2, hs, n3, u3, o3, r3, off3, c3⟩
  · omega
  rw [e3] at hs n3 u3 o3 r3 off3 c3
  simp only at hs n3 u3 o3 r3 off3 c3
  subst hs
  rw [if_neg (by simp)]
  have c3' := c3 c2'
  rw [rename_eq hq off3 (by rw [n3]; exact g2)] at e4
  rcases run_cases s3 (opR q) off3 with ⟨f3, _⟩ | ⟨f3, hs, n4, u4, o4, r4, off4, c4⟩
  · omega
  rw [hs] at e4
  obtain ⟨rfl, rfl⟩ := Prod.mk.inj e4
  rw [if_neg (by simp)]
  have m4 : May q E (s3.run (opR q)).now (some b) := by rw [n4, n3]; exact m2.renamed g2
  have c4' := c4 c3'
  rcases sync_cases _ off4 with ⟨f4, _⟩ | ⟨f4, hs, n5, u5, o5, r5, off5, c5⟩
  · omega
  rw [e5] at hs n5 u5 o5 r5 off5 c5
  simp only at hs n5 u5 o5 r5 off5 c5
  subst hs
  exact ⟨rfl, by rw [n5]; exact m4, off5⟩

/-- Open, asked of a disk: what it answers, and what is left. -/
def opA (q : Nm) (s : St) : Nat × St :=
  if s.off then (6, s) else if (s.remove (newN q)).1 = 0 ∨ (s.remove (newN q)).1 = 8 then (0, (s.remove (newN q)).2) else (6, (s.remove (newN q)).2)

theorem open_none {q : Nm} {s : St} (ho : s.off = false) (hg : getA (newN q) s.now = none) : opA q s = (0, s) := by
  have hr : s.remove (newN q) = (8, s) := by
    unfold St.remove
    rw [if_neg (by simp [ho]), hg]
  unfold opA
  rw [if_neg (by simp [ho]), hr]
  rfl

theorem opA_new (q : Nm) (R : Int) : opA q (St.new R) = (0, St.new R) := open_none rfl rfl

/-- How Open ends on a disk on which nothing waits. -/
theorem open_fresh {q : Nm} {E : Fs} {s : St} {t : Tx} (hi : Fresh q E s t) :
    (((opA q s).1 = 0 ∧ Fresh q E (opA q s).2 t) ∨ ((opA q s).1 = 6 ∧ s.fuse ≠ -1 ∧ Gone q E (opA q s).2 t t)) ∧ (opA q s).2.room = s.room ∧ (s.fuse = -1 → (opA q s).2.fuse = -1) := by
  obtain ⟨hi, hops⟩ := hi
  cases hg : getA (newN q) s.now with
  | none =>
    rw [open_none hi.off hg]
    exact ⟨.inl ⟨rfl, hi, .inr hg⟩, rfl, fun h => h⟩
  | some x =>
    have hops : s.ops = [] := hops.elim id fun h => by rw [hg] at h; cases h
    have hb : Beside q (opD q) := ⟨rfl, .inr (.inr rfl)⟩
    have hrem : s.remove (newN q) = (s.said, s.run (opD q)) := by
      unfold St.remove
      rw [if_neg (by simp [hi.off]), hg]
      rfl
    unfold opA
    rw [if_neg (by simp [hi.off]), hrem]
    have hsf := hi.sure.few
    rcases run_cases s (opD q) hi.off with ⟨f0, hs, hr⟩ | ⟨f0, hs, n1, u1, o1, r1, off1, c1⟩
    · rw [hs, hr]
      have e : (if ((6 : Nat), ({ s with off := true } : St)).1 = 0 ∨ ((6 : Nat), ({ s with off := true } : St)).1 = 8 then ((0 : Nat), ((6 : Nat), ({ s with off := true } : St)).2) else (6, ((6 : Nat), ({ s with off := true } : St)).2)) = (6, { s with off := true }) := rfl
      rw [e]
      exact ⟨.inr ⟨rfl, by omega, ⟨rfl, by show s.sure.length + s.ops.length ≤ 6; rw [hops]; simp; omega, fun keep torn => .inl (May.crash (s := { s with off := true }) hi.sure hi.ops keep torn)⟩⟩, rfl, fun h => by omega⟩
    · rw [hs]
      have e : (if ((0 : Nat), s.run (opD q)).1 = 0 ∨ ((0 : Nat), s.run (opD q)).1 = 8 then ((0 : Nat), ((0 : Nat), s.run (opD q)).2) else (6, ((0 : Nat), s.run (opD q)).2)) = (0, s.run (opD q)) := rfl
      rw [e]
      refine ⟨.inl ⟨rfl, ⟨off1, by simp only [n1]; exact hi.now.beside hb, by simp only [u1]; exact hi.sure, ?_, by simp [o1, hops]⟩, .inr (by simp only [n1]; unfold opD; rw [doA_remove hg]; exact getA_del_same)⟩, r1, c1⟩
      simp only [o1, hops]
      intro o ho
      simp at ho
      subst ho
      exact hb

end Go.Proofs.Ytboongdoggggoaa.SwapMath
