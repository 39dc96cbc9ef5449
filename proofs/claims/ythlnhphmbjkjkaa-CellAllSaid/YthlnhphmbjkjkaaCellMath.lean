/- Layer 10 as plain functions: the files of a cell, what they tell, what a crash may leave of them. No program is named here. -/
import Derived.Test.YthlnhphmbjkjkaaDiskMath
import Derived.Test.YthlnhphmbjkjkaaReadMath
namespace Go.Proofs.Ythlnhphmbjkjkaa.CellMath
open Go DiskMath BinMath

/-- A cell's name. -/
def wn (q : Nm) : Prop := 1 ≤ q.length ∧ q.length ≤ 4 ∧ ∀ c ∈ q, 97 ≤ c.toNat ∧ c.toNat ≤ 122
instance (q : Nm) : Decidable (wn q) := by unfold wn; infer_instance
def lowC (c : UInt8) : Bool := 97 ≤ c.toNat && c.toNat ≤ 122
def wnB (q : Nm) : Bool := 1 ≤ q.length && q.length ≤ 4 && q.all lowC

theorem wnB_wn (q : Nm) : wnB q = true ↔ wn q := by
  unfold wnB wn
  simp only [Bool.and_eq_true, decide_eq_true_eq, List.all_eq_true, lowC]
  constructor
  · rintro ⟨⟨h1, h2⟩, h3⟩
    exact ⟨h1, h2, h3⟩
  · rintro ⟨h1, h2, h3⟩
    exact ⟨⟨h1, h2⟩, h3⟩

def nowN (q : Nm) : Nm := q ++ [46, 110, 111, 119]
def newN (q : Nm) : Nm := q ++ [46, 110, 101, 119]

theorem now_new {q : Nm} : nowN q ≠ newN q := fun h => by
  have h1 := List.append_cancel_left h
  revert h1
  decide

theorem okC_name {q : Nm} (hq : wn q) : q.all okC = true := by
  rw [List.all_eq_true]
  intro c hc
  have h := hq.2.2 c hc
  unfold okC
  simp [h.1, h.2]

theorem now_len {q : Nm} (hq : wn q) : 1 ≤ (nowN q).length ∧ (nowN q).length ≤ 16 := by
  have h2 := hq.2.1
  simp only [nowN, List.length_append, List.length_cons, List.length_nil]
  omega
theorem new_len {q : Nm} (hq : wn q) : 1 ≤ (newN q).length ∧ (newN q).length ≤ 16 := by
  have h2 := hq.2.1
  simp only [newN, List.length_append, List.length_cons, List.length_nil]
  omega
theorem now_named {q : Nm} (hq : wn q) : named (nowN q) = true := by
  have h := now_len hq
  unfold named
  simp only [h.1, h.2, decide_true, Bool.true_and]
  unfold nowN
  rw [List.all_append, okC_name hq]
  rfl
theorem new_named {q : Nm} (hq : wn q) : named (newN q) = true := by
  have h := new_len hq
  unfold named
  simp only [h.1, h.2, decide_true, Bool.true_and]
  unfold newN
  rw [List.all_append, okC_name hq]
  rfl

/-- A term and a vote. -/
abbrev Hd := Nat × Nat
def okH (h : Hd) : Prop := h.1 < 18446744073709551616 ∧ h.2 < 18446744073709551616
instance (h : Hd) : Decidable (okH h) := by unfold okH; infer_instance
def txt (h : Hd) : List UInt8 := numL h.1 ++ numL h.2

theorem txt_len (h : Hd) (ho : okH h) : 2 ≤ (txt h).length ∧ (txt h).length ≤ 18 := by
  have h1 := nb_le h.1 ho.1
  have h2 := nb_le h.2 ho.2
  rw [txt, List.length_append, numL_length, numL_length]
  omega

/-- What bytes tell. -/
def hardOf (t : List UInt8) : Hd := if (numS t (numS t 0 0).2.2 (numS t 0 0).2.1).2.1 = 0 then ((numS t 0 0).1, (numS t (numS t 0 0).2.2 (numS t 0 0).2.1).1) else (0, 0)

theorem hardOf_txt (h : Hd) (ho : okH h) (r : List UInt8) : hardOf (txt h ++ r) = h := by
  have e1 : numS (txt h ++ r) 0 0 = (h.1, 0, (numL h.1).length) := by
    unfold numS txt
    rw [if_neg (by simp), List.drop_zero, List.append_assoc, pNum_numL _ _ ho.1]
    simp
  have e2 : numS (txt h ++ r) (numL h.1).length 0 = (h.2, 0, (numL h.1).length + (numL h.2).length) := by
    unfold numS txt
    rw [if_neg (by simp), List.append_assoc, List.drop_left, pNum_numL _ _ ho.2]
  unfold hardOf
  rw [e1]
  simp only
  rw [e2]
  simp

/-- What the files tell. -/
def tells (q : Nm) (F : Fs) : Hd := match getA (nowN q) F with
  | none => (0, 0)
  | some t => hardOf t

theorem tells_of {q : Nm} {F F' : Fs} (h : getA (nowN q) F' = getA (nowN q) F) : tells q F' = tells q F := by
  unfold tells
  rw [h]

/-- Files of a cell that has h. -/
structure May (q : Nm) (F : Fs) (h : Hd) : Prop where
  rise : Rise F
  own : ∀ p ∈ F, p.1 = nowN q ∨ p.1 = newN q
  short : ∀ p ∈ F, p.2.length ≤ 18
  has : tells q F = h

theorem may_nil (q : Nm) : May q [] (0, 0) := ⟨List.Pairwise.nil, fun p hp => (by cases hp), fun p hp => (by cases hp), rfl⟩

theorem nodup_sub : ∀ (l L : List Nm), l.Nodup → (∀ x ∈ l, x ∈ L) → l.length ≤ L.length
  | [], _, _, _ => Nat.zero_le _
  | a :: l, L, hn, hs => by
    obtain ⟨h1, h2⟩ := List.nodup_cons.1 hn
    have h3 := nodup_sub l (L.erase a) h2 fun x hx => (List.mem_erase_of_ne (fun e => h1 (by rw [← e]; exact hx))).2 (hs x (List.mem_cons_of_mem _ hx))
    have h4 := List.length_erase_of_mem (hs a (by simp))
    have h5 := List.length_pos_of_mem (hs a (by simp))
    simp only [List.length_cons]
    omega

theorem rise_nodup {F : Fs} (h : Rise F) : (F.map (·.1)).Nodup := by
  unfold List.Nodup
  rw [List.pairwise_map]
  exact List.Pairwise.imp (fun h => before_ne h) h

theorem May.few {q : Nm} {F : Fs} {h : Hd} (hm : May q F h) : F.length ≤ 2 := by
  have h1 := nodup_sub (F.map (·.1)) [nowN q, newN q] (rise_nodup hm.rise) fun x hx => by
    obtain ⟨p, hp, rfl⟩ := List.mem_map.1 hx
    rcases hm.own p hp with e | e <;> simp [e]
  simpa using h1

theorem May.tot {q : Nm} {F : Fs} {h : Hd} (hm : May q F h) : tot F ≤ 36 := by
  have h1 := tot_le (l := F) (k := 18) hm.short
  have h2 := hm.few
  omega

theorem layT_zero (t b : List UInt8) : layT t 0 b = b ++ t.drop b.length := by
  unfold layT
  by_cases h : b = []
  · subst h; simp
  · rw [if_neg h]; simp

theorem doA_write {F : Fs} {n : Nm} {b : List UInt8} : doA ⟨0, n, [], 0, b⟩ F = putA n (b ++ ((getA n F).getD []).drop b.length) F := by
  unfold doA
  rw [if_pos rfl, layT_zero]

/-- What is written beside is nothing to the cell. -/
theorem May.beside {q : Nm} {F : Fs} {h : Hd} (hm : May q F h) (t : List UInt8) (ht : t.length ≤ 18) : May q (putA (newN q) t F) h where
  rise := rise_put hm.rise
  own p hp := by
    rcases mem_put.1 hp with rfl | ⟨h1, _⟩
    · exact .inr rfl
    · exact hm.own p h1
  short p hp := by
    rcases mem_put.1 hp with rfl | ⟨h1, _⟩
    · exact ht
    · exact hm.short p h1
  has := by rw [tells_of (getA_put_other hm.rise now_new)]; exact hm.has

theorem May.old {q : Nm} {F : Fs} {h : Hd} (hm : May q F h) : ((getA (newN q) F).getD []).length ≤ 18 := by
  cases hg : getA (newN q) F with
  | none => simp
  | some t => exact hm.short _ (getA_mem hg)

def opW (q : Nm) (h : Hd) : AOp := ⟨0, newN q, [], 0, txt h⟩
def opR (q : Nm) : AOp := ⟨3, newN q, nowN q, 0, []⟩

theorem May.write {q : Nm} {F : Fs} {h : Hd} (hm : May q F h) (b : List UInt8) (hb : b.length ≤ 18) : May q (doA ⟨0, newN q, [], 0, b⟩ F) h := by
  rw [doA_write]
  refine hm.beside _ ?_
  have := hm.old
  rw [List.length_append, List.length_drop]
  omega

theorem May.wrote {q : Nm} {F : Fs} {h : Hd} (hm : May q F h) (h' : Hd) : ∃ r, getA (newN q) (doA (opW q h') F) = some (txt h' ++ r) := by
  unfold opW
  rw [doA_write, getA_put_same hm.rise]
  exact ⟨_, rfl⟩

/-- It takes the cell's place. -/
theorem May.renamed {q : Nm} {F : Fs} {h h' : Hd} (hm : May q F h) (ho : okH h') {r : List UInt8} (hg : getA (newN q) F = some (txt h' ++ r)) : May q (doA (opR q) F) h' where
  rise := rise_do _ _ hm.rise
  own p hp := by
    unfold opR at hp
    rw [doA_rename hg] at hp
    rcases mem_put.1 hp with rfl | ⟨h1, _⟩
    · exact .inl rfl
    · exact hm.own p (mem_del.1 h1).1
  short p hp := by
    unfold opR at hp
    rw [doA_rename hg] at hp
    rcases mem_put.1 hp with rfl | ⟨h1, _⟩
    · exact hm.short (newN q, txt h' ++ r) (getA_mem hg)
    · exact hm.short p (mem_del.1 h1).1
  has := by
    unfold opR
    rw [doA_rename hg]
    unfold tells
    rw [getA_put_same (rise_del hm.rise)]
    exact hardOf_txt h' ho r

/-- Set, asked of a disk. -/
def setA (q : Nm) (s : St) (h : Hd) : Nat × St :=
  if (s.write (newN q) 0 (txt h)).1 ≠ 0 then s.write (newN q) 0 (txt h)
  else if ((s.write (newN q) 0 (txt h)).2.sync).1 ≠ 0 then (s.write (newN q) 0 (txt h)).2.sync
  else if (((s.write (newN q) 0 (txt h)).2.sync).2.rename (newN q) (nowN q)).1 ≠ 0 then ((s.write (newN q) 0 (txt h)).2.sync).2.rename (newN q) (nowN q)
  else (((s.write (newN q) 0 (txt h)).2.sync).2.rename (newN q) (nowN q)).2.sync

/-- What it comes to. -/
def setB (q : Nm) (F : Fs) (R f : Int) (h : Hd) : Nat × St :=
  if f = 0 then (6, ⟨F, F, [], R, 0, true⟩)
  else if f = 1 then (6, ⟨doA (opW q h) F, F, [opW q h], R, 0, true⟩)
  else if f = 2 then (6, ⟨doA (opW q h) F, doA (opW q h) F, [], R, 0, true⟩)
  else if f = 3 then (6, ⟨doA (opR q) (doA (opW q h) F), doA (opW q h) F, [opR q], R, 0, true⟩)
  else (0, ⟨doA (opR q) (doA (opW q h) F), doA (opR q) (doA (opW q h) F), [], R, if 0 < f then f - 4 else f, false⟩)

theorem write_eq {q : Nm} (hq : wn q) {F : Fs} {h0 h : Hd} (hm : May q F h0) (ho : okH h) (G : Fs) (os : List AOp) (R f : Int) (hR : 60 ≤ R) :
    (⟨F, G, os, R, f, false⟩ : St).write (newN q) 0 (txt h) = (if f = 0 then 6 else 0, (⟨F, G, os, R, f, false⟩ : St).run (opW q h)) := by
  have h1 := (txt_len h ho).2
  have h2 := hm.tot
  have h3 : used F (newN q) (0 : Int).toNat (txt h).length ≤ 60 := by
    unfold used
    have h4 := hm.old
    split
    · omega
    · simp only [Int.toNat_zero]
      omega
  unfold St.write
  rw [if_neg (by simp), new_named hq]
  rw [if_neg (by simp), if_neg (by omega), if_neg (by simp only; omega)]
  rfl

theorem sync_eq (F G : Fs) (os : List AOp) (R f : Int) : (⟨F, G, os, R, f, false⟩ : St).sync = if f = 0 then (6, ⟨F, G, os, R, 0, true⟩) else (0, ⟨F, F, [], R, if 0 < f then f - 1 else f, false⟩) := by
  unfold St.sync
  rw [if_neg (by simp)]
  by_cases h : f = 0
  · subst h
    simp [St.burn]
  · simp only [h, if_false, St.burn]
    split <;> rfl

theorem run_eq (F G : Fs) (os : List AOp) (R f : Int) (o : AOp) : (⟨F, G, os, R, f, false⟩ : St).run o = if f = 0 then ⟨F, G, os, R, 0, true⟩ else ⟨doA o F, G, os ++ [o], R, if 0 < f then f - 1 else f, false⟩ := by
  unfold St.run
  by_cases h : f = 0
  · subst h
    simp [St.burn]
  · simp only [h, if_false, St.burn]
    split <;> rfl

theorem rename_eq {q : Nm} (hq : wn q) (F G : Fs) (os : List AOp) (R f : Int) {t : List UInt8} (hg : getA (newN q) F = some t) :
    (⟨F, G, os, R, f, false⟩ : St).rename (newN q) (nowN q) = (if f = 0 then 6 else 0, (⟨F, G, os, R, f, false⟩ : St).run (opR q)) := by
  unfold St.rename
  rw [if_neg (by simp)]
  simp only [hg, now_named hq]
  rw [if_neg (by simp)]
  rfl

theorem setA_eq {q : Nm} (hq : wn q) {F : Fs} {h0 h : Hd} (hm : May q F h0) (ho : okH h) (R f : Int) (hR : 60 ≤ R) (hf : -1 ≤ f) : setA q ⟨F, F, [], R, f, false⟩ h = setB q F R f h := by
  obtain ⟨r, hr⟩ := hm.wrote h
  unfold setA
  rw [write_eq hq hm ho F [] R f hR, run_eq]
  by_cases h1 : f = 0
  · subst h1
    simp [setB]
  rw [if_neg h1, if_neg h1]
  simp only [ne_eq, not_true_eq_false, if_false]
  rw [sync_eq]
  by_cases h2 : f = 1
  · subst h2
    simp [setB]
  have e2 : ¬ (if 0 < f then f - 1 else f) = 0 := by split <;> omega
  rw [if_neg e2]
  simp only [not_true_eq_false, if_false]
  rw [rename_eq hq _ _ _ _ _ hr, run_eq]
  by_cases h3 : f = 2
  · subst h3
    simp [setB]
  have e3 : ¬ (if 0 < (if 0 < f then f - 1 else f) then (if 0 < f then f - 1 else f) - 1 else (if 0 < f then f - 1 else f)) = 0 := by
    by_cases h5 : 0 < f
    · have a1 : 0 < f - 1 := by omega
      simp only [h5, a1, if_true]
      omega
    · simp only [h5, if_false]
      omega
  rw [if_neg e3, if_neg e3]
  simp only [not_true_eq_false, if_false]
  rw [sync_eq]
  by_cases h4 : f = 3
  · subst h4
    simp [setB]
  unfold setB
  rw [if_neg h1, if_neg h2, if_neg h3, if_neg h4]
  by_cases h5 : 0 < f
  · have a1 : 0 < f - 1 := by omega
    have a2 : 0 < f - 1 - 1 := by omega
    have a3 : 0 < f - 1 - 1 - 1 := by omega
    simp only [h5, a1, a2, a3, if_true]
    rw [if_neg (by omega)]
    have e5 : f - 1 - 1 - 1 - 1 = f - 4 := by omega
    rw [e5]
  · simp only [h5, if_false]
    rw [if_neg (by omega)]

/-- A disk between calls, with a cell that has h. -/
structure Idle (q : Nm) (s : St) (h : Hd) : Prop where
  off : s.off = false
  sure : s.sure = s.now
  ops : s.ops = []
  may : May q s.now h

/-- A Set was lost that would have set h'. -/
structure Gone (q : Nm) (s : St) (h h' : Hd) : Prop where
  off : s.off = true
  ops : s.ops.length ≤ 1
  few : s.sure.length ≤ 2
  good : ∀ keep torn, May q (s.crash keep torn).now h ∨ May q (s.crash keep torn).now h'

theorem Idle.eq {q : Nm} {s : St} {h : Hd} (hi : Idle q s h) : s = ⟨s.now, s.now, [], s.room, s.fuse, false⟩ := by
  obtain ⟨now, sure, ops, room, fuse, off⟩ := s
  obtain ⟨h1, h2, h3, -⟩ := hi
  simp only at h1 h2 h3
  subst h1 h2 h3
  rfl

theorem Idle.fuse {q : Nm} {s : St} {h : Hd} (hi : Idle q s h) (x : Int) : Idle q { s with fuse := x } h := ⟨hi.off, hi.sure, hi.ops, hi.may⟩

theorem crash_none (F G : Fs) (R f : Int) (o : Bool) (keep : List Bool) (torn : Int) : ((⟨F, G, [], R, f, o⟩ : St).crash keep torn).now = G := by
  unfold St.crash
  simp [keptA, tornA, doAllA]

theorem crash_one (F G : Fs) (op : AOp) (R f : Int) (o : Bool) (keep : List Bool) (torn : Int) : ((⟨F, G, [op], R, f, o⟩ : St).crash keep torn).now = G ∨ ((⟨F, G, [op], R, f, o⟩ : St).crash keep torn).now = doA { op with b := op.b.take (max torn 0).toNat } G := by
  unfold St.crash
  cases keep with
  | nil => left; simp [keptA, tornA, doAllA]
  | cons k ks =>
    cases k with
    | true => right; simp [keptA, tornA, doAllA]
    | false => left; simp [keptA, tornA, doAllA]

/-- How Set ends. -/
theorem set_idle {q : Nm} (hq : wn q) {s : St} {h0 h : Hd} (hi : Idle q s h0) (ho : okH h) (hR : 60 ≤ s.room) (hf : -1 ≤ s.fuse) :
    (((setA q s h).1 = 0 ∧ Idle q (setA q s h).2 h) ∨ ((setA q s h).1 = 6 ∧ s.fuse ≠ -1 ∧ Gone q (setA q s h).2 h0 h)) ∧ (setA q s h).2.room = s.room ∧ (s.fuse = -1 → (setA q s h).2.fuse = -1) := by
  have hm := hi.may
  rw [hi.eq]
  obtain ⟨F, hF⟩ : ∃ F, F = s.now := ⟨_, rfl⟩
  obtain ⟨R, hRe⟩ : ∃ R, R = s.room := ⟨_, rfl⟩
  obtain ⟨f, hfe⟩ : ∃ f, f = s.fuse := ⟨_, rfl⟩
  rw [← hF] at hm ⊢
  rw [← hRe] at hR ⊢
  rw [← hfe] at hf ⊢
  clear hF hRe hfe hi
  rw [setA_eq hq hm ho R f hR hf]
  obtain ⟨r, hr⟩ := hm.wrote h
  have hl := txt_len h ho
  have hw : May q (doA (opW q h) F) h0 := hm.write (txt h) hl.2
  have hn : May q (doA (opR q) (doA (opW q h) F)) h := hw.renamed ho hr
  unfold setB
  by_cases h1 : f = 0
  · subst h1
    rw [if_pos rfl]
    exact ⟨.inr ⟨rfl, (by decide), ⟨rfl, Nat.zero_le _, hm.few, fun keep torn => .inl (by rw [crash_none]; exact hm)⟩⟩, rfl, fun h => absurd h (by show ¬ (0 : Int) = -1; omega)⟩
  rw [if_neg h1]
  by_cases h2 : f = 1
  · subst h2
    rw [if_pos rfl]
    refine ⟨.inr ⟨rfl, (by decide), ⟨rfl, Nat.le_refl _, hm.few, fun keep torn => .inl ?_⟩⟩, rfl, fun h => absurd h (by show ¬ (1 : Int) = -1; omega)⟩
    rcases crash_one (doA (opW q h) F) F (opW q h) R 0 true keep torn with e | e
    · rw [e]; exact hm
    · rw [e]
      exact hm.write _ (by unfold opW; simp only [List.length_take]; omega)
  rw [if_neg h2]
  by_cases h3 : f = 2
  · subst h3
    rw [if_pos rfl]
    exact ⟨.inr ⟨rfl, (by decide), ⟨rfl, Nat.zero_le _, hw.few, fun keep torn => .inl (by rw [crash_none]; exact hw)⟩⟩, rfl, fun h => absurd h (by show ¬ (2 : Int) = -1; omega)⟩
  rw [if_neg h3]
  by_cases h4 : f = 3
  · subst h4
    rw [if_pos rfl]
    refine ⟨.inr ⟨rfl, (by decide), ⟨rfl, Nat.le_refl _, hw.few, fun keep torn => ?_⟩⟩, rfl, fun h => absurd h (by show ¬ (3 : Int) = -1; omega)⟩
    rcases crash_one (doA (opR q) (doA (opW q h) F)) (doA (opW q h) F) (opR q) R 0 true keep torn with e | e
    · rw [e]; exact .inl hw
    · rw [e]
      refine .inr ?_
      have e2 : ({ opR q with b := (opR q).b.take (max torn 0).toNat } : AOp) = opR q := by simp [opR]
      rw [e2]
      exact hn
  rw [if_neg h4]
  refine ⟨.inl ⟨rfl, ⟨rfl, rfl, rfl, hn⟩⟩, rfl, fun h => ?_⟩
  subst h
  rfl

/-- Behind a crash of a disk at rest all is as it was. -/
theorem Idle.crash {q : Nm} {s : St} {h : Hd} (hi : Idle q s h) (keep : List Bool) (torn : Int) : Idle q (s.crash keep torn) h := by
  have hm := hi.may
  rw [hi.eq]
  refine ⟨rfl, rfl, rfl, ?_⟩
  rw [crash_none]
  exact hm

theorem Gone.crash {q : Nm} {s : St} {h h' : Hd} (hg : Gone q s h h') (keep : List Bool) (torn : Int) : Idle q (s.crash keep torn) h ∨ Idle q (s.crash keep torn) h' := by
  rcases hg.good keep torn with h1 | h1
  · exact .inl ⟨rfl, rfl, rfl, h1⟩
  · exact .inr ⟨rfl, rfl, rfl, h1⟩

theorem idle_new (q : Nm) (R : Int) : Idle q (St.new R) (0, 0) := ⟨rfl, rfl, rfl, may_nil q⟩

end Go.Proofs.Ythlnhphmbjkjkaa.CellMath
