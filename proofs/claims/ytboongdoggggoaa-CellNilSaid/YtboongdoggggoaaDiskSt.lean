/- A disk in the program's memory: what it is, what keeps it; its small methods. -/
import Derived.Test.YtboongdoggggoaaDiskSmall
namespace Go.Proofs.Ytboongdoggggoaa
set_option maxRecDepth 20000
open Go.RowKit Go.Maps DiskMath

abbrev dp (d : Nat) : Value := .pointer (some ⟨d, 0, none⟩)

/-- The cells of a disk. -/
def dC (s : St) (m1 m2 : Nat) (ws : Value) : Array Value := #[.int .i64 (max s.room 0), .bool s.off, .int .i64 s.fuse, .map (some m1), .int .i64 (tot s.now : Int), .map (some m2), .int .i64 (tot s.sure : Int), ws]

/-- A disk: its maps, its files, what waits. -/
structure Dk (w : World) (d c : Nat) (s : St) (m1 m2 : Nat) (F1 F2 : Gf) (ws : Value) (G : Go8) : Prop where
  blk : Blk w d 123 (dC s m1 m2 ws)
  k1 : Keep w m1 F1
  p1 : pr F1 = s.now
  k2 : Keep w m2 F2
  p2 : pr F2 = s.sure
  wops : Wops w ws G
  pw : names8 G = s.ops
  ok : Ok c s
  small : c ≤ 2000
  ne : m1 ≠ m2
  ap : ∀ k, foot F1 k → ¬ foot F2 k
  apo : ∀ p ∈ G, ∀ k, p.2.ownBlock = some k → ¬ foot F1 k ∧ ¬ foot F2 k
  fuse : -1 ≤ s.fuse ∧ s.fuse ≤ 9223372036854775807

/-- The blocks of a disk. -/
def tk (d m1 m2 : Nat) (F1 F2 : Gf) (ws : Value) (G : Go8) (k : Nat) : Prop := k = d ∨ k = m1 ∨ k = m2 ∨ foot F1 k ∨ foot F2 k ∨ ws.ownBlock = some k ∨ ∃ p ∈ G, p.2.ownBlock = some k

theorem Dk.lt {w : World} {d c : Nat} {s : St} {m1 m2 : Nat} {F1 F2 : Gf} {ws : Value} {G : Go8} (h : Dk w d c s m1 m2 F1 F2 ws G) {k : Nat} (hk : tk d m1 m2 F1 F2 ws G k) : k < w.heap.size := by
  rcases hk with rfl | rfl | rfl | hk | hk | hk | ⟨p, hp, hk⟩
  · exact h.blk.lt
  · exact h.k1.lt
  · exact h.k2.lt
  · exact h.k1.foot_lt hk
  · exact h.k2.foot_lt hk
  · exact (World.ownsRow.lt h.wops.row k hk).2
  · exact ((h.wops.text p hp).lt hk).2

theorem Dk.same {w w' : World} {d c : Nat} {s : St} {m1 m2 : Nat} {F1 F2 : Gf} {ws : Value} {G : Go8} (h : Dk w d c s m1 m2 F1 F2 ws G) (hs : ∀ k, tk d m1 m2 F1 F2 ws G k → w'.heap[k]? = w.heap[k]?) : Dk w' d c s m1 m2 F1 F2 ws G :=
  { h with
    blk := by unfold Blk; rw [hs d (.inl rfl)]; exact h.blk
    k1 := h.k1.same (hs m1 (.inr (.inl rfl))) fun k hk => hs k (.inr (.inr (.inr (.inl hk))))
    k2 := h.k2.same (hs m2 (.inr (.inr (.inl rfl)))) fun k hk => hs k (.inr (.inr (.inr (.inr (.inl hk)))))
    wops := h.wops.same (fun k hk => hs k (.inr (.inr (.inr (.inr (.inr (.inl hk))))))) fun p hp k hk => hs k (.inr (.inr (.inr (.inr (.inr (.inr ⟨p, hp, hk⟩)))))) }

/-- A disk; its blocks are among T. -/
structure IsDisk (w : World) (T : Nat → Prop) (d c : Nat) (s : St) : Prop where
  ex : ∃ m1 m2 F1 F2 ws G, Dk w d c s m1 m2 F1 F2 ws G ∧ ∀ k, tk d m1 m2 F1 F2 ws G k → T k
  lt : ∀ k, T k → k < w.heap.size

theorem IsDisk.same {w w' : World} {T : Nat → Prop} {d c : Nat} {s : St} (h : IsDisk w T d c s) (hs : ∀ k, T k → w'.heap[k]? = w.heap[k]?) (hl : w.heap.size ≤ w'.heap.size) : IsDisk w' T d c s := by
  obtain ⟨m1, m2, F1, F2, ws, G, hd, ht⟩ := h.ex
  exact ⟨⟨m1, m2, F1, F2, ws, G, hd.same fun k hk => hs k (ht k hk), ht⟩, fun k hk => Nat.lt_of_lt_of_le (h.lt k hk) hl⟩

theorem IsDisk.below {w w' : World} {T : Nat → Prop} {d c : Nat} {s : St} (h : IsDisk w T d c s) (hb : Below w.heap.size w w') : IsDisk w' T d c s := h.same (fun k hk => hb.block k (h.lt k hk)) hb.size

/-- What a call leaves that may write a disk of blocks T. -/
structure Next (w : World) (T : Nat → Prop) (d c : Nat) (s : St) (w' : World) : Prop where
  disk : IsDisk w' (fun k => T k ∨ (w.heap.size ≤ k ∧ k < w'.heap.size)) d c s
  only : OnlyS T w w'

theorem Next.of {w w' : World} {T : Nat → Prop} {d c : Nat} {s : St} {m1 m2 : Nat} {F1 F2 : Gf} {ws : Value} {G : Go8} (hlt : ∀ k, T k → k < w.heap.size) (ho : OnlyS T w w') (hd : Dk w' d c s m1 m2 F1 F2 ws G) (ht : ∀ k, tk d m1 m2 F1 F2 ws G k → T k ∨ w.heap.size ≤ k) : Next w T d c s w' :=
  ⟨⟨⟨m1, m2, F1, F2, ws, G, hd, fun k hk => by
    rcases ht k hk with h | h
    · exact .inl h
    · exact .inr ⟨h, hd.lt hk⟩⟩, fun k hk => by
    rcases hk with h | h
    · exact Nat.lt_of_lt_of_le (hlt k h) ho.size
    · exact h.2⟩, ho⟩

theorem Next.refl {w : World} {T : Nat → Prop} {d c : Nat} {s : St} (h : IsDisk w T d c s) : Next w T d c s w := by
  obtain ⟨m1, m2, F1, F2, ws, G, hd, ht⟩ := h.ex
  exact Next.of h.lt (OnlyS.refl _ _) hd fun k hk => .inl (ht k hk)

theorem IsDisk.mono {w : World} {T : Nat → Prop} {d c c' : Nat} {s : St} (h : IsDisk w T d c s) (hc : c ≤ c') (h2 : c' ≤ 2000) : IsDisk w T d c' s := by
  obtain ⟨m1, m2, F1, F2, ws, G, hd, ht⟩ := h.ex
  exact ⟨⟨m1, m2, F1, F2, ws, G, { hd with ok := { hd.ok with few := Nat.le_trans hd.ok.few hc }, small := h2 }, ht⟩, h.lt⟩

theorem Next.mono {w w' : World} {T : Nat → Prop} {d c c' : Nat} {s : St} (h : Next w T d c s w') (hc : c ≤ c') (h2 : c' ≤ 2000) : Next w T d c' s w' := ⟨h.disk.mono hc h2, h.only⟩

/-- Cells of a disk that are known. -/
theorem Dk.cells {w : World} {d c : Nat} {s : St} {m1 m2 : Nat} {F1 F2 : Gf} {ws : Value} {G : Go8} (h : Dk w d c s m1 m2 F1 F2 ws G) (i : Nat) : w.cell? ⟨d, i, none⟩ = (dC s m1 m2 ws)[i]? := Blk.cell h.blk i

/-- One cell of the disk's block is written: the room, whether it is down, the fuse, what waits. -/
theorem Dk.set {w : World} {d c : Nat} {s s' : St} {m1 m2 : Nat} {F1 F2 : Gf} {ws : Value} {G : Go8} (h : Dk w d c s m1 m2 F1 F2 ws G) (i : Nat) (u : Value) (hc : dC s' m1 m2 ws = (dC s m1 m2 ws).setIfInBounds i u)
    (h1 : s'.now = s.now) (h2 : s'.sure = s.sure) (h3 : s'.ops = s.ops) (h4 : -1 ≤ s'.fuse ∧ s'.fuse ≤ 9223372036854775807) : Dk (w.setCell ⟨d, i, none⟩ u) d c s' m1 m2 F1 F2 ws G := by
  have hne : ∀ k, ws.ownBlock = some k → k ≠ d := fun k hk e => by
    obtain ⟨cur, hcu⟩ := ownRow_block h.wops.row hk
    have hb := h.blk
    unfold Blk at hb
    rw [← e, hcu] at hb
    simp at hb
  have hoth : ∀ k, k ≠ d → (w.setCell ⟨d, i, none⟩ u).heap[k]? = w.heap[k]? := fun k hk => heap_setCell_other w ⟨d, i, none⟩ k u hk
  exact {
    blk := by rw [hc]; exact Blk.set h.blk i u
    k1 := h.k1.setBlk h.blk (by decide) i u
    p1 := by rw [h1]; exact h.p1
    k2 := h.k2.setBlk h.blk (by decide) i u
    p2 := by rw [h2]; exact h.p2
    wops := h.wops.same (fun k hk => hoth k (hne k hk)) fun p hp k hk => hoth k fun e => row_ne_blk (h.wops.text p hp) h.blk (by decide) (by rw [hk, e])
    pw := by rw [h3]; exact h.pw
    ok := ⟨by rw [h1, h2, h3]; exact h.ok.now, by rw [h2]; exact h.ok.rise, by rw [h2]; exact h.ok.fit, by rw [h3]; exact h.ok.fitO, by rw [h2, h3]; exact h.ok.few⟩
    small := h.small
    ne := h.ne
    ap := h.ap
    apo := h.apo
    fuse := h4 }

theorem down_any {w : World} {d c : Nat} {s : St} {m1 m2 : Nat} {F1 F2 : Gf} {ws : Value} {G : Go8} (h : Dk w d c s m1 m2 F1 F2 ws G) : Calls Try.prog 73 #[dp d] w fun e w' => e = .returned (.bool s.off) ∧ w = w' := by
  have c1 : w.cell? ⟨d, 1, none⟩ = some (.bool s.off) := by rw [h.cells]; rfl
  obtain ⟨b, hb⟩ : ∃ b, b = s.off := ⟨_, rfl⟩
  rw [← hb] at c1 ⊢
  clear h hb
  go_enter Try.func73, Try.ntmps73
  go_wp2
  go_ret
  exact ⟨rfl, rfl⟩

theorem fuse_any {w : World} {T : Nat → Prop} {d c : Nat} {s : St} (h : IsDisk w T d c s) (x : Int) (hx : x ≤ 9223372036854775807) : Calls Try.prog 36 #[dp d, .int .i64 x] w fun e w' => e = .returned (.tuple #[]) ∧ Next w T d c { s with fuse := max x (-1) } w' := by
  obtain ⟨m1, m2, F1, F2, ws, G, hd, ht⟩ := h.ex
  have f0 : w.frozen? ⟨d, 2, none⟩ = false := Blk.frozen hd.blk 2
  have c0 : w.cell? ⟨d, 2, none⟩ = some (.int .i64 s.fuse) := by rw [hd.cells]; rfl
  obtain ⟨r, hr⟩ : ∃ r, r = s.fuse := ⟨_, rfl⟩
  obtain ⟨y, hy⟩ : ∃ y, y = max x (-1) := ⟨_, rfl⟩
  have hmax : ∀ (ts : Array TypeId) (ty : TypeId) (W : World), (Builtin.max_ ts ty #[.int .i64 x, .int .i64 (-1)]).run Try.prog W = .ok (.int .i64 y) W := fun ts ty W => by
    have e : (if (-1 : Int) > x then -1 else x) = y := by omega
    rw [run_max_int2, e]
  rw [← hr] at c0
  have HN := Lib.hid (Next.of h.lt ((only_set w d 2 (.int .i64 y)).mono fun k _ e => ht k (.inl e)) (hd.set (s' := { s with fuse := max x (-1) }) 2 (.int .i64 y) (by rw [hy]; rfl) rfl rfl rfl (by show -1 ≤ max x (-1) ∧ max x (-1) ≤ 9223372036854775807; omega)) fun k hk => .inl (ht k hk))
  clear h hd ht hr hy hx
  go_enter Try.func36, Try.ntmps36
  go_wp2
  go_end0
  exact ⟨rfl, HN.out⟩

/-- The fuse burns. -/
theorem burn_any {w : World} {d c : Nat} {s : St} {m1 m2 : Nat} {F1 F2 : Gf} {ws : Value} {G : Go8} (h : Dk w d c s m1 m2 F1 F2 ws G) : Calls Try.prog 139 #[dp d] w fun e w' => e = .returned (.bool (decide (s.fuse ≠ 0))) ∧ Dk w' d c s.burn m1 m2 F1 F2 ws G ∧ OnlyS (fun k => k = d) w w' := by
  have f1 : w.frozen? ⟨d, 1, none⟩ = false := Blk.frozen h.blk 1
  have f2 : w.frozen? ⟨d, 2, none⟩ = false := Blk.frozen h.blk 2
  have c1 : w.cell? ⟨d, 1, none⟩ = some (.bool s.off) := by rw [h.cells]; rfl
  have c2 : w.cell? ⟨d, 2, none⟩ = some (.int .i64 s.fuse) := by rw [h.cells]; rfl
  have hf := h.fuse
  obtain ⟨x, hx⟩ : ∃ x, x = s.fuse := ⟨_, rfl⟩
  obtain ⟨b, hb⟩ : ∃ b, b = s.off := ⟨_, rfl⟩
  rw [← hx] at c2 hf ⊢
  rw [← hb] at c1
  have HX := Lib.hid hx
  by_cases h0 : x = 0
  · have e1 : s.burn = { s with off := true } := by unfold St.burn; rw [if_pos (by omega)]
    have hd := h.set (s' := s.burn) 1 (.bool true) (by rw [e1]; rfl) (by rw [e1]) (by rw [e1]) (by rw [e1]) (by rw [e1]; exact h.fuse)
    have HD := Lib.hid hd
    have eb : decide (x ≠ 0) = false := by simp [h0]
    rw [eb]
    subst h0
    clear h hd hx hb e1 eb
    go_enter Try.func139, Try.ntmps139
    go_wp2
    go_ret
    exact ⟨rfl, HD.out, only_set w d 1 _⟩
  · have eb : decide (x ≠ 0) = true := by simp [h0]
    have i0 : (x == 0) = false := by simpa using h0
    rw [eb]
    by_cases hp : 0 < x
    · have e1 : s.burn = { s with fuse := s.fuse - 1 } := by unfold St.burn; rw [if_neg (by omega), if_pos (by omega)]
      have hd := h.set (s' := s.burn) 2 (.int .i64 (x - 1)) (by rw [e1, hx]; rfl) (by rw [e1]) (by rw [e1]) (by rw [e1]) (by rw [e1]; show -1 ≤ s.fuse - 1 ∧ s.fuse - 1 ≤ 9223372036854775807; omega)
      have HD := Lib.hid hd
      clear h hd hx hb e1 eb
      go_enter Try.func139, Try.ntmps139
      go_wp2
      go_ret
      exact ⟨rfl, HD.out, only_set w d 2 _⟩
    · have e1 : s.burn = s := by unfold St.burn; rw [if_neg (by omega), if_neg (by omega)]
      rw [e1]
      have HD := Lib.hid h
      clear h hx hb e1 eb
      go_enter Try.func139, Try.ntmps139
      go_wp2
      go_ret
      exact ⟨rfl, HD.out, OnlyS.refl _ _⟩
end Go.Proofs.Ytboongdoggggoaa
