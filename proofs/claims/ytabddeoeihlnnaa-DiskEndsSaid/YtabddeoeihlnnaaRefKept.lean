/- What the reference's Crash keeps: which operations its two loops take. -/
import Derived.Test.YtabddeoeihlnnaaRefWrite
namespace Go.Proofs.Ytabddeoeihlnnaa
open Go.RowKit Go.Maps DiskMath Reg

theorem keptG_take : ∀ (G : Go8) (ks : List Bool), keptG (G.take ks.length) ks = keptG G ks
  | [], ks => by simp
  | o :: os, [] => rfl
  | o :: os, k :: ks => by
    have ih := keptG_take os ks
    simp only [List.length_cons, List.take_succ_cons, keptG, ih]

/-- What the first loop knows: the last that is kept. -/
def LastAt (G : Go8) (ks : List Bool) (i : Nat) (la : Int) : Prop :=
  (la = -1 ∧ keptG (G.take i) ks = []) ∨ ∃ j : Nat, j < i ∧ la = (j : Int) ∧ ks[j]? = some true ∧ keptG (G.take i) ks = keptG (G.take (j + 1)) ks

section
variable {G : Go8} {ks : List Bool} {i i0 : Nat} {la torn : Int} {p : AOp × Value}

theorem LastAt.start : LastAt G ks 0 (-1) := .inl ⟨rfl, by simp [keptG]⟩

theorem LastAt.yes (hk : ks[i]? = some true) : LastAt G ks (i + 1) (i : Int) := .inr ⟨i, by omega, rfl, hk, rfl⟩

theorem LastAt.no (h : LastAt G ks i la) (hp : G[i]? = some p) (hk : ks[i]? = some false) : LastAt G ks (i + 1) la := by
  have e : keptG (G.take (i + 1)) ks = keptG (G.take i) ks := by rw [keptG_snoc G ks i p hp, hk]; simp
  rcases h with ⟨h1, h2⟩ | ⟨j, h1, h2, h3, h4⟩
  · exact .inl ⟨h1, by rw [e, h2]⟩
  · exact .inr ⟨j, by omega, h2, h3, by rw [e, h4]⟩

/-- The operations done ahead of the i-th. -/
def doneR (G : Go8) (ks : List Bool) (torn la : Int) (i : Nat) : List AOp := if (i : Int) ≤ la then names8 (keptG (G.take i) ks) else tornA torn (keptA (names8 G) ks)

theorem doneR_start (h : LastAt G ks i0 la) (he : keptG (G.take i0) ks = keptG G ks) : doneR G ks torn la 0 = [] := by
  unfold doneR
  rcases h with ⟨h1, h2⟩ | ⟨j, h1, h2, h3, h4⟩
  · rw [if_neg (by omega), ← keptG_names, ← he, h2]
    rfl
  · rw [if_pos (by omega)]
    simp [keptG, names8]

theorem doneR_skip (h : LastAt G ks i0 la) (hi : (i : Int) ≤ la) (hp : G[i]? = some p) (hk : ks[i]? = some false) : doneR G ks torn la (i + 1) = doneR G ks torn la i ∧ ((i + 1 : Nat) : Int) ≤ la := by
  have hlt : ((i + 1 : Nat) : Int) ≤ la := by
    rcases h with ⟨h1, h2⟩ | ⟨j, h1, h2, h3, h4⟩
    · omega
    · have : i ≠ j := by
        rintro rfl
        rw [hk] at h3
        cases h3
      omega
  refine ⟨?_, hlt⟩
  unfold doneR
  rw [if_pos hlt, if_pos hi, keptG_snoc G ks i p hp, hk]
  simp

theorem doneR_all (hi : (i : Int) < la) (hp : G[i]? = some p) (hk : ks[i]? = some true) : doneR G ks torn la (i + 1) = doneR G ks torn la i ++ [p.1] := by
  unfold doneR
  rw [if_pos (by omega), if_pos (by omega), keptG_snoc G ks i p hp, hk]
  simp [names8]

theorem doneR_last (h : LastAt G ks i0 la) (he : keptG (G.take i0) ks = keptG G ks) (hi : (i : Int) = la) (hp : G[i]? = some p) : doneR G ks torn la (i + 1) = doneR G ks torn la i ++ [{ p.1 with b := p.1.b.take (max torn 0).toNat }] := by
  rcases h with ⟨h1, h2⟩ | ⟨j, h1, h2, h3, h4⟩
  · omega
  · obtain rfl : i = j := by omega
    unfold doneR
    rw [if_neg (by omega), if_pos (by omega), ← keptG_names, ← he, h4, keptG_snoc G ks i p hp, h3]
    show tornA torn (names8 (keptG (G.take i) ks ++ [p])) = _
    rw [names8, List.map_append]
    exact tornA_last _ _ _

theorem doneR_end (hi : la < (i : Int)) : doneR G ks torn la i = tornA torn (keptA (names8 G) ks) := by
  unfold doneR
  rw [if_neg (by omega)]

theorem doneR_fit (h : ∀ o ∈ names8 G, FitO o) : ∀ o ∈ doneR G ks torn la i, FitO o := by
  unfold doneR
  split
  · intro o ho
    obtain ⟨p, hp, rfl⟩ := List.mem_map.1 ho
    exact h _ (names8_mem (List.mem_of_mem_take (keptG_sub _ _ p hp)))
  · exact fit_torn torn _ fun o ho => h o (keptA_sub _ _ o ho)

theorem doneR_length : (doneR G ks torn la i).length ≤ G.length := by
  unfold doneR
  split
  · have h1 := keptG_length (G.take i) ks
    rw [List.length_take] at h1
    simp only [names8, List.length_map]
    omega
  · have h1 := keptA_length (names8 G) ks
    rw [torn_length]
    simpa [names8] using h1
end

/-- Between two rounds of the second loop. -/
structure CrAt (w : World) (sv : Value) (F2 : Gf) (s : St) (L : List AOp) (u : Value) (W : World) : Prop where
  ex : ∃ F', Fls W u F' ∧ pr F' = doAllA L s.sure ∧ ∀ j, fk u F' j → fk sv F2 j ∨ w.heap.size ≤ j
  bel : Below w.heap.size w W

theorem CrAt.slice {w W : World} {sv u : Value} {F2 : Gf} {s : St} {L : List AOp} (h : CrAt w sv F2 s L u W) : ∃ a n c, u = .slice a n c := by
  obtain ⟨⟨F', h1, -, -⟩, -⟩ := h
  obtain ⟨a, c, e⟩ := h1.slice
  exact ⟨a, _, c, e⟩

theorem CrAt.below {w W W' : World} {sv u : Value} {F2 : Gf} {s : St} {L : List AOp} (h : CrAt w sv F2 s L u W) (hb : Below W.heap.size W W') : CrAt w sv F2 s L u W' := by
  obtain ⟨⟨F', h1, h2, h3⟩, h4⟩ := h
  exact ⟨⟨F', h1.below hb, h2, h3⟩, h4.trans (hb.mono h4.size)⟩

/-- One operation more. -/
theorem CrAt.call {w W : World} {sv u v : Value} {F2 : Gf} {s : St} {c : Nat} {L : List AOp} {op : AOp} (h : CrAt w sv F2 s L u W) (hok : Ok c s) (hf : ∀ o ∈ L, FitO o) (hl : s.sure.length + L.length ≤ 2000) (ho : FitO op) (hv : Row W 0 v op.b) :
    Calls Try.prog 51 #[u, .agg (rC op v)] W fun e w' => ∃ u2, e = .returned u2 ∧ CrAt w sv F2 s (L ++ [op]) u2 w' := by
  obtain ⟨⟨F', h1, h2, h3⟩, h4⟩ := h
  have hlen := length_doAll L s.sure
  rw [← h2, pr_length] at hlen
  refine (dor_any h1 (by omega) ((rise_map (fun y : Value × List UInt8 => y.2)).1 (by show Rise (pr F'); rw [h2]; exact rise_doAll _ _ hok.rise)) (by rw [h2]; exact fit_doAll _ _ hok.fit hf) ho hv).mono ?_
  rintro e w' ⟨u2, rfl, ⟨F'', g1, g2, g3⟩, g4⟩
  refine ⟨u2, rfl, ⟨F'', g1, by rw [g2, h2, doAllA_snoc], fun j hj => ?_⟩, h4.trans (g4.mono h4.size)⟩
  rcases g3 j hj with h | h
  · exact h3 j h
  · exact .inr (Nat.le_trans h4.size h)

/-- What is left when the files were laid into the disk. -/
theorem crashr_end {w W : World} {S : Nat → Prop} {r c : Nat} {s : St} {fv sv ov u : Value} {F1 F2 : Gf} {G : Go8} {ks : List Bool} {torn : Int} (hd : Rk w r c s fv sv ov F1 F2 G) (ht : ∀ k, rk r fv sv ov F1 F2 G k → S k) (hlt : ∀ k, S k → k < w.heap.size)
    (h : CrAt w sv F2 s (tornA torn (keptA s.ops ks)) u W) : NextR w S r c (s.crash ks torn) (((((W.setCell ⟨r, 0, none⟩ u).setCell ⟨r, 1, none⟩ u).setCell ⟨r, 2, none⟩ (.slice none 0 0)).setCell ⟨r, 5, none⟩ (.bool false)).setCell ⟨r, 4, none⟩ (.int .i64 (-1))) := by
  obtain ⟨⟨F', h1, h2, h3⟩, hb⟩ := h
  obtain ⟨l, hl⟩ : ∃ l, l = doAllA (tornA torn (keptA s.ops ks)) s.sure := ⟨_, rfl⟩
  have hcr : s.crash ks torn = ⟨l, l, [], s.room, -1, false⟩ := by rw [hl]; rfl
  have hops : ∀ o ∈ tornA torn (keptA s.ops ks), FitO o := fit_torn torn _ fun o ho => hd.ok.fitO o (keptA_sub _ _ o ho)
  have hS : S r := ht r (.inl rfl)
  have hblk := hd.blk.keep hb
  have hne : ∀ k, fk u F' k → k ≠ r := fun k hk e => by
    have hb3 := hblk
    unfold Blk at hb3
    rcases hk with hk | ⟨p, hp, hk⟩
    · obtain ⟨cur, hcu⟩ := ownRow_block h1.row hk
      rw [← e, hcu] at hb3
      simp at hb3
    · obtain ⟨cur, hcu⟩ := (h1.text p hp).block hk
      rw [← e, hcu] at hb3
      simp at hb3
  have hoth : ∀ k, k ≠ r → (((((W.setCell ⟨r, 0, none⟩ u).setCell ⟨r, 1, none⟩ u).setCell ⟨r, 2, none⟩ (.slice none 0 0)).setCell ⟨r, 5, none⟩ (.bool false)).setCell ⟨r, 4, none⟩ (.int .i64 (-1))).heap[k]? = W.heap[k]? := fun k hk => by
    rw [heap_setCell_other _ ⟨r, 4, none⟩ k _ hk, heap_setCell_other _ ⟨r, 5, none⟩ k _ hk, heap_setCell_other _ ⟨r, 2, none⟩ k _ hk, heap_setCell_other _ ⟨r, 1, none⟩ k _ hk, heap_setCell_other _ ⟨r, 0, none⟩ k _ hk]
  have hO : OnlyS S w (((((W.setCell ⟨r, 0, none⟩ u).setCell ⟨r, 1, none⟩ u).setCell ⟨r, 2, none⟩ (.slice none 0 0)).setCell ⟨r, 5, none⟩ (.bool false)).setCell ⟨r, 4, none⟩ (.int .i64 (-1))) :=
    (((((OnlyS.of_below (S := S) hb fun k hk _ => hk).setCell (p := ⟨r, 0, none⟩) (fun _ => hS) _).setCell (p := ⟨r, 1, none⟩) (fun _ => hS) _).setCell (p := ⟨r, 2, none⟩) (fun _ => hS) _).setCell (p := ⟨r, 5, none⟩) (fun _ => hS) _).setCell (p := ⟨r, 4, none⟩) (fun _ => hS) _
  have hf := h1.same fun k hk => hoth k (hne k hk)
  have hlen : l.length ≤ c := by
    have h1 := length_doAll (tornA torn (keptA s.ops ks)) s.sure
    have h2 := keptA_length s.ops ks
    rw [torn_length, ← hl] at h1
    have h3 := hd.ok.few
    omega
  rw [hcr]
  refine NextR.of (fv := u) (sv := u) (ov := .slice none 0 0) (F1 := F') (F2 := F') (G := []) hlt hO ?_ fun k hk => ?_
  · exact {
      blk := Blk.set (Blk.set (Blk.set (Blk.set (Blk.set hblk 0 u) 1 u) 2 (.slice none 0 0)) 5 (.bool false)) 4 (.int .i64 (-1))
      f1 := hf
      p1 := by rw [h2, hl]
      f2 := hf
      p2 := by rw [h2, hl]
      ops := World.ownsRow_nil _ _ _ _
      text := fun p hp => by cases hp
      pw := rfl
      ok := ⟨rfl, by show Rise l; rw [hl]; exact rise_doAll _ _ hd.ok.rise, by show Fit l; rw [hl]; exact fit_doAll _ _ hd.ok.fit hops, (fun o ho => by cases ho), hlen⟩
      small := hd.small
      fuse := by show -1 ≤ (-1 : Int) ∧ (-1 : Int) ≤ 9223372036854775807; omega }
  · have hfk : fk u F' k → S k ∨ w.heap.size ≤ k := fun h => by
      rcases h3 k h with h | h
      · exact .inl (ht k (.inr (.inr (.inl h))))
      · exact .inr h
    rcases hk with rfl | h | h | h | ⟨p, hp, _⟩
    · exact .inl hS
    · exact hfk h
    · exact hfk h
    · simp [Value.ownBlock] at h
    · cases hp
end Go.Proofs.Ytabddeoeihlnnaa
