/- The reference's disk in memory: what it is, what keeps it; burn. -/
import Derived.Test.YtabddeoeihlnnaaRefDoAll
namespace Go.Proofs.Ytabddeoeihlnnaa
open Go.RowKit Go.Maps DiskMath

/-- The cells of the struct. -/
def rsC (s : St) (fv sv ov : Value) : Array Value := #[fv, sv, ov, .int .i64 s.room, .int .i64 s.fuse, .bool s.off]

def cellsR (G : Go8) : List Value := G.flatMap fun p => (rC p.1 p.2).toList

theorem cellsR_length (G : Go8) : (cellsR G).length = G.length * 5 := by
  induction G with
  | nil => rfl
  | cons p r ih => simp only [cellsR, List.flatMap_cons, List.length_append, List.length_cons] at ih ⊢; rw [ih]; simp [rC]; omega

/-- The reference's disk, with its ghosts. -/
structure Rk (w : World) (r c : Nat) (s : St) (fv sv ov : Value) (F1 F2 : Gf) (G : Go8) : Prop where
  blk : Blk w r 65 (rsC s fv sv ov)
  f1 : Fls w fv F1
  p1 : pr F1 = s.now
  f2 : Fls w sv F2
  p2 : pr F2 = s.sure
  ops : w.ownsRow 0 83 5 ov G.length (cellsR G)
  text : ∀ p ∈ G, Row w 0 p.2 p.1.b
  pw : names8 G = s.ops
  ok : Ok c s
  small : c ≤ 2000
  fuse : -1 ≤ s.fuse ∧ s.fuse ≤ 9223372036854775807

/-- Its blocks. -/
def rk (r : Nat) (fv sv ov : Value) (F1 F2 : Gf) (G : Go8) (k : Nat) : Prop := k = r ∨ fk fv F1 k ∨ fk sv F2 k ∨ ov.ownBlock = some k ∨ ∃ p ∈ G, p.2.ownBlock = some k

theorem Rk.lt {w : World} {r c : Nat} {s : St} {fv sv ov : Value} {F1 F2 : Gf} {G : Go8} (h : Rk w r c s fv sv ov F1 F2 G) {k : Nat} (hk : rk r fv sv ov F1 F2 G k) : k < w.heap.size := by
  rcases hk with rfl | hk | hk | hk | ⟨p, hp, hk⟩
  · exact h.blk.lt
  · exact h.f1.lt hk
  · exact h.f2.lt hk
  · exact (World.ownsRow.lt h.ops k hk).2
  · exact ((h.text p hp).lt hk).2

theorem Rk.same {w w' : World} {r c : Nat} {s : St} {fv sv ov : Value} {F1 F2 : Gf} {G : Go8} (h : Rk w r c s fv sv ov F1 F2 G) (hs : ∀ k, rk r fv sv ov F1 F2 G k → w'.heap[k]? = w.heap[k]?) : Rk w' r c s fv sv ov F1 F2 G :=
  { h with
    blk := by unfold Blk; rw [hs r (.inl rfl)]; exact h.blk
    f1 := h.f1.same fun k hk => hs k (.inr (.inl hk))
    f2 := h.f2.same fun k hk => hs k (.inr (.inr (.inl hk)))
    ops := ownRow_same h.ops fun k hk => hs k (.inr (.inr (.inr (.inl hk))))
    text := fun p hp => (h.text p hp).same fun k hk => hs k (.inr (.inr (.inr (.inr ⟨p, hp, hk⟩)))) }

/-- The reference's disk; its blocks are among S. -/
structure IsRef (w : World) (S : Nat → Prop) (r c : Nat) (s : St) : Prop where
  ex : ∃ fv sv ov F1 F2 G, Rk w r c s fv sv ov F1 F2 G ∧ ∀ k, rk r fv sv ov F1 F2 G k → S k
  lt : ∀ k, S k → k < w.heap.size

theorem IsRef.same {w w' : World} {S : Nat → Prop} {r c : Nat} {s : St} (h : IsRef w S r c s) (hs : ∀ k, S k → w'.heap[k]? = w.heap[k]?) (hl : w.heap.size ≤ w'.heap.size) : IsRef w' S r c s := by
  obtain ⟨fv, sv, ov, F1, F2, G, hd, ht⟩ := h.ex
  exact ⟨⟨fv, sv, ov, F1, F2, G, hd.same fun k hk => hs k (ht k hk), ht⟩, fun k hk => Nat.lt_of_lt_of_le (h.lt k hk) hl⟩

theorem IsRef.below {w w' : World} {S : Nat → Prop} {r c : Nat} {s : St} (h : IsRef w S r c s) (hb : Below w.heap.size w w') : IsRef w' S r c s := h.same (fun k hk => hb.block k (h.lt k hk)) hb.size

/-- What a call leaves that may write a disk of blocks S. -/
structure NextR (w : World) (S : Nat → Prop) (r c : Nat) (s : St) (w' : World) : Prop where
  disk : IsRef w' (fun k => S k ∨ (w.heap.size ≤ k ∧ k < w'.heap.size)) r c s
  only : OnlyS S w w'

theorem NextR.of {w w' : World} {S : Nat → Prop} {r c : Nat} {s : St} {fv sv ov : Value} {F1 F2 : Gf} {G : Go8} (hlt : ∀ k, S k → k < w.heap.size) (ho : OnlyS S w w') (hd : Rk w' r c s fv sv ov F1 F2 G) (ht : ∀ k, rk r fv sv ov F1 F2 G k → S k ∨ w.heap.size ≤ k) : NextR w S r c s w' :=
  ⟨⟨⟨fv, sv, ov, F1, F2, G, hd, fun k hk => by
    rcases ht k hk with h | h
    · exact .inl h
    · exact .inr ⟨h, hd.lt hk⟩⟩, fun k hk => by
    rcases hk with h | h
    · exact Nat.lt_of_lt_of_le (hlt k h) ho.size
    · exact h.2⟩, ho⟩

theorem NextR.refl {w : World} {S : Nat → Prop} {r c : Nat} {s : St} (h : IsRef w S r c s) : NextR w S r c s w := by
  obtain ⟨fv, sv, ov, F1, F2, G, hd, ht⟩ := h.ex
  exact NextR.of h.lt (OnlyS.refl _ _) hd fun k hk => .inl (ht k hk)

/-- No row's block is the struct's. -/
theorem Rk.ne {w : World} {r c : Nat} {s : St} {fv sv ov : Value} {F1 F2 : Gf} {G : Go8} (h : Rk w r c s fv sv ov F1 F2 G) {k : Nat} (hk : fk fv F1 k ∨ fk sv F2 k ∨ ov.ownBlock = some k ∨ ∃ p ∈ G, p.2.ownBlock = some k) : k ≠ r := fun e => by
  have hb := h.blk
  unfold Blk at hb
  have hrow : ∀ {v : Value} {l : List UInt8}, Row w 0 v l → v.ownBlock = some k → False := fun hr hk => by
    obtain ⟨cur, hc⟩ := hr.block hk
    rw [← e, hc] at hb
    simp at hb
  have hfl : ∀ {v : Value} {F : Gf}, Fls w v F → fk v F k → False := fun hf hk => by
    rcases hk with hk | ⟨p, hp, hk⟩
    · obtain ⟨cur, hc⟩ := ownRow_block hf.row hk
      rw [← e, hc] at hb
      simp at hb
    · exact hrow (hf.text p hp) hk
  rcases hk with hk | hk | hk | ⟨p, hp, hk⟩
  · exact hfl h.f1 hk
  · exact hfl h.f2 hk
  · obtain ⟨cur, hc⟩ := ownRow_block h.ops hk
    rw [← e, hc] at hb
    simp at hb
  · exact hrow (h.text p hp) hk

/-- One cell of the struct is written: the room, the fuse, whether it is down. -/
theorem Rk.set {w : World} {r c : Nat} {s s' : St} {fv sv ov : Value} {F1 F2 : Gf} {G : Go8} (h : Rk w r c s fv sv ov F1 F2 G) (i : Nat) (u : Value) (hc : rsC s' fv sv ov = (rsC s fv sv ov).setIfInBounds i u)
    (h1 : s'.now = s.now) (h2 : s'.sure = s.sure) (h3 : s'.ops = s.ops) (h4 : -1 ≤ s'.fuse ∧ s'.fuse ≤ 9223372036854775807) : Rk (w.setCell ⟨r, i, none⟩ u) r c s' fv sv ov F1 F2 G := by
  have hoth : ∀ k, k ≠ r → (w.setCell ⟨r, i, none⟩ u).heap[k]? = w.heap[k]? := fun k hk => heap_setCell_other w ⟨r, i, none⟩ k u hk
  exact {
    blk := by rw [hc]; exact Blk.set h.blk i u
    f1 := h.f1.same fun k hk => hoth k (h.ne (.inl hk))
    p1 := by rw [h1]; exact h.p1
    f2 := h.f2.same fun k hk => hoth k (h.ne (.inr (.inl hk)))
    p2 := by rw [h2]; exact h.p2
    ops := ownRow_same h.ops fun k hk => hoth k (h.ne (.inr (.inr (.inl hk))))
    text := fun p hp => (h.text p hp).same fun k hk => hoth k (h.ne (.inr (.inr (.inr ⟨p, hp, hk⟩))))
    pw := by rw [h3]; exact h.pw
    ok := ⟨by rw [h1, h2, h3]; exact h.ok.now, by rw [h2]; exact h.ok.rise, by rw [h2]; exact h.ok.fit, by rw [h3]; exact h.ok.fitO, by rw [h2, h3]; exact h.ok.few⟩
    small := h.small
    fuse := h4 }

/-- The fuse burns. -/
theorem burnr_any {w : World} {r c : Nat} {s : St} {fv sv ov : Value} {F1 F2 : Gf} {G : Go8} (h : Rk w r c s fv sv ov F1 F2 G) : Calls Try.prog 53 #[dp r] w fun e w' => e = .returned (.int .i64 (s.said : Int)) ∧ Rk w' r c s.burn fv sv ov F1 F2 G ∧ OnlyS (fun k => k = r) w w' := by
  have f4 : w.frozen? ⟨r, 4, none⟩ = false := Blk.frozen h.blk 4
  have f5 : w.frozen? ⟨r, 5, none⟩ = false := Blk.frozen h.blk 5
  have c4 : w.cell? ⟨r, 4, none⟩ = some (.int .i64 s.fuse) := by rw [Blk.cell h.blk]; rfl
  have c5 : w.cell? ⟨r, 5, none⟩ = some (.bool s.off) := by rw [Blk.cell h.blk]; rfl
  have hf := h.fuse
  obtain ⟨x, hx⟩ : ∃ x, x = s.fuse := ⟨_, rfl⟩
  obtain ⟨b, hb⟩ : ∃ b, b = s.off := ⟨_, rfl⟩
  rw [← hx] at c4 hf
  rw [← hb] at c5
  by_cases h0 : x = 0
  · have e1 : s.burn = { s with off := true } := by unfold St.burn; rw [if_pos (by omega)]
    have es : s.said = 6 := by unfold St.said; rw [if_pos (by omega)]
    have hd := h.set (s' := s.burn) 5 (.bool true) (by rw [e1]; rfl) (by rw [e1]) (by rw [e1]) (by rw [e1]) (by rw [e1]; exact h.fuse)
    have HD := Lib.hid hd
    rw [es]
    subst h0
    clear h hd hx hb e1 es
    go_enter Try.func53, Try.ntmps53
    go_wp2
    go_ret
    exact ⟨rfl, HD.out, only_set w r 5 _⟩
  · have es : s.said = 0 := by unfold St.said; rw [if_neg (by omega)]
    have i0 : (x == 0) = false := by simpa using h0
    rw [es]
    by_cases hp : 0 < x
    · have e1 : s.burn = { s with fuse := s.fuse - 1 } := by unfold St.burn; rw [if_neg (by omega), if_pos (by omega)]
      have hd := h.set (s' := s.burn) 4 (.int .i64 (x - 1)) (by rw [e1, hx]; rfl) (by rw [e1]) (by rw [e1]) (by rw [e1]) (by rw [e1]; show -1 ≤ s.fuse - 1 ∧ s.fuse - 1 ≤ 9223372036854775807; omega)
      have HD := Lib.hid hd
      clear h hd hx hb e1 es
      go_enter Try.func53, Try.ntmps53
      go_wp2
      go_ret
      exact ⟨rfl, HD.out, only_set w r 4 _⟩
    · have e1 : s.burn = s := by unfold St.burn; rw [if_neg (by omega), if_neg (by omega)]
      rw [e1]
      have HD := Lib.hid h
      clear h hx hb e1 es
      go_enter Try.func53, Try.ntmps53
      go_wp2
      go_ret
      exact ⟨rfl, HD.out, OnlyS.refl _ _⟩
end Go.Proofs.Ytabddeoeihlnnaa
