/- The reference's try: an operation done, which waits then. -/
import Derived.Test.YtabddeoeihlnnaaRefSync
namespace Go.Proofs.Ytabddeoeihlnnaa
open Go.RowKit Go.Maps DiskMath Reg

theorem DoEnd.below {w W W' : World} {v u : Value} {G : Gf} {op : AOp} (h : DoEnd w v G op u W) (hb : Below W.heap.size W W') : DoEnd w v G op u W' := by
  obtain ⟨⟨G', h1, h2, h3⟩, h4⟩ := h
  exact ⟨⟨G', h1.below hb, h2, h3⟩, h4.trans (hb.mono h4.size)⟩

theorem DoEnd.ahead {w W W' : World} {v u : Value} {G : Gf} {op : AOp} (h : DoEnd W v G op u W') (hb : Below w.heap.size w W) : DoEnd w v G op u W' := by
  obtain ⟨⟨G', h1, h2, h3⟩, h4⟩ := h
  exact ⟨⟨G', h1, h2, fun j hj => (h3 j hj).imp id fun h => Nat.le_trans hb.size h⟩, hb.trans (h4.mono hb.size)⟩

/-- How try ends. -/
structure TryEnd (w : World) (r c : Nat) (s : St) (fv sv ov : Value) (F1 F2 : Gf) (G : Go8) (v : Value) (w' : World) : Prop where
  ex : ∃ fv' ov' F1' G', Rk w' r c s fv' sv ov' F1' F2 G' ∧ ∀ k, rk r fv' sv ov' F1' F2 G' k → rk r fv sv ov F1 F2 G k ∨ v.ownBlock = some k ∨ w.heap.size ≤ k
  only : OnlyS (rk r fv sv ov F1 F2 G) w w'

theorem cellsR_snoc (G : Go8) (o : AOp) (v : Value) : cellsR (G ++ [(o, v)]) = cellsR G ++ (rC o v).toList := by simp [cellsR]

theorem info_opr : (Try.prog.info? 83).map (fun i => (i.zero, i.size, i.bytes)) = some (some (.agg #[.int .i64 0, .string ⟨#[]⟩, .string ⟨#[]⟩, .int .i64 0, .slice none 0 0]), 5, 72) := by kernel_rfl

theorem one_opr (o : AOp) (v : Value) (hv : v.oneCell' = true) : ∀ u ∈ (rC o v).toList, u.oneCell' = true := by
  intro u hu
  simp [rC, nm] at hu
  rcases hu with rfl | rfl | rfl | rfl | rfl <;> first | rfl | exact hv

/-- append(ops, op). -/
theorem add_opr {W : World} {ws : Value} {n : Nat} {xs : List Value} (h : W.ownsRow 0 83 5 ws n xs) (hn : n ≤ 4095) {x : Nat} {cs : Array Value} (hx : Blk W x 83 cs) (hl : cs.size = 5) (h1 : ∀ u ∈ cs.toList, u.oneCell' = true) :
    ∃ v' w', (Builtin.append_ #[63, 63] 63 #[ws, .slice (some ⟨x, 0, none⟩) 1 1]).run Try.prog W = .ok v' w' ∧
      (w'.ownsRow 0 83 5 v' (n + 1) (xs ++ cs.toList) ∧ w'.ownsRow 0 83 5 ws n xs ∧ OnlyS (fun k => ws.ownBlock = some k) W w' ∧ Near W ws v') := by
  obtain ⟨i0, hi, hz0, hz1, hz2⟩ := info_parts info_opr
  exact append_one W 63 63 83 i0 (.agg #[.int .i64 0, .string ⟨#[]⟩, .string ⟨#[]⟩, .int .i64 0, .slice none 0 0]) 5 72 Try.underlying63 hi hz0 hz1 hz2 rfl (by decide) ws n xs h x cs hx hl h1 (by omega) (by omega)

theorem build_opr (W : World) (x0 x1 x2 x3 x4 : Value) : (Instr.buildSlice 63 1 #[(0, .agg #[x0, x1, x2, x3, x4])]).run Try.prog W = .ok (.slice (some ⟨W.heap.size, 0, none⟩) 1 1) (W.alloc (.cells #[x0, x1, x2, x3, x4] 83)) := by
  have hz : (zeroValue 83).run Try.prog W = .ok (.agg #[.int .i64 0, .string ⟨#[]⟩, .string ⟨#[]⟩, .int .i64 0, .slice none 0 0]) W := by kernel_rfl
  have hr : Array.range 5 = #[0, 1, 2, 3, 4] := by decide
  simp [Instr.buildSlice, run_underlying Try.underlying63, Result.andThen, hz, Instr.fill, newRow, Value.cells, hr]

/-- What is left when an operation was done (world W3) and has been added (world W). -/
theorem try_end {w2 W3 W : World} {r c : Nat} {s : St} {fv sv ov u ov' v : Value} {F1 F2 : Gf} {G : Go8} {op : AOp} (hd : Rk w2 r c s.burn fv sv ov F1 F2 G) (h0 : s.fuse ≠ 0) (hc : c + 1 ≤ 2000) (ho : FitO op) (hv : Row w2 0 v op.b)
    (hD : DoEnd w2 fv F1 op u W3) (h4 : OnlyS (fun k => ov.ownBlock = some k) (W3.setCell ⟨r, 0, none⟩ u) W)
    (hrow : W.ownsRow 0 83 5 ov' (G.length + 1) (cellsR G ++ (rC op v).toList)) (hnear : Near (W3.setCell ⟨r, 0, none⟩ u) ov ov') : TryEnd w2 r (c + 1) (s.run op) fv sv ov F1 F2 G v (W.setCell ⟨r, 2, none⟩ ov') := by
  obtain ⟨⟨F1', hf, hp, hk⟩, hb⟩ := hD
  obtain ⟨b1, b2, b3, b4⟩ := burn_keeps s
  have hrun : s.run op = { s.burn with now := doA op s.now, ops := s.ops ++ [op] } := by unfold St.run; rw [if_neg h0]
  have hovr : ov.ownBlock ≠ some r := fun e => hd.ne (.inr (.inr (.inl e))) rfl
  have hblk3 : Blk W3 r 65 (rsC s.burn fv sv ov) := hd.blk.keep hb
  have hblkW : Blk W r 65 ((rsC s.burn fv sv ov).setIfInBounds 0 u) := (Blk.set hblk3 0 u).only h4 hovr
  -- what stands from W3 on
  have keep3 : ∀ k, k < W3.heap.size → k ≠ r → ov.ownBlock ≠ some k → (W.setCell ⟨r, 2, none⟩ ov').heap[k]? = W3.heap[k]? := fun k hl h1 h2 => by
    rw [heap_setCell_other W ⟨r, 2, none⟩ k ov' h1, h4.block k (by simpa [World.setCell] using hl) h2, heap_setCell_other W3 ⟨r, 0, none⟩ k u h1]
  have keep : ∀ k, k < w2.heap.size → k ≠ r → ov.ownBlock ≠ some k → (W.setCell ⟨r, 2, none⟩ ov').heap[k]? = w2.heap[k]? := fun k hl h1 h2 => by
    rw [keep3 k (Nat.lt_of_lt_of_le hl hb.size) h1 h2, hb.block k hl]
  -- the rows' blocks are not those of Ops
  have hovB : ∀ k, ov.ownBlock = some k → ∃ cur, w2.heap[k]? = some (.cells cur 83 (0, 0)) := fun k hk => ownRow_block hd.ops hk
  have hovB3 : ∀ k, ov.ownBlock = some k → ∃ cur, W3.heap[k]? = some (.cells cur 83 (0, 0)) := fun k hk => by
    obtain ⟨cur, hcu⟩ := hovB k hk
    exact ⟨cur, by rw [hb.block k (World.ownsRow.lt hd.ops k hk).2]; exact hcu⟩
  have rowOff : ∀ {X : World} {y : Value} {l : List UInt8} {k : Nat}, Row X 0 y l → y.ownBlock = some k → (∀ j, ov.ownBlock = some j → ∃ cur, X.heap[j]? = some (.cells cur 83 (0, 0))) → ov.ownBlock ≠ some k := fun hr hy hB e => by
    obtain ⟨cur, hcu⟩ := hr.block hy
    obtain ⟨cur', hcu'⟩ := hB _ e
    rw [hcu] at hcu'
    simp at hcu'
  have flsOff : ∀ {X : World} {y : Value} {F : Gf} {k : Nat}, Fls X y F → fk y F k → (∀ j, ov.ownBlock = some j → ∃ cur, X.heap[j]? = some (.cells cur 83 (0, 0))) → ov.ownBlock ≠ some k := fun hfl hy hB e => by
    rcases hy with hy | ⟨p, hp, hy⟩
    · obtain ⟨cur, hcu⟩ := ownRow_block hfl.row hy
      obtain ⟨cur', hcu'⟩ := hB _ e
      rw [hcu] at hcu'
      simp at hcu'
    · exact rowOff (hfl.text p hp) hy hB e
  have blkOff : ∀ {k : Nat}, fk u F1' k → k ≠ r := fun {k} hk' e => by
    have hb3 := hblk3
    unfold Blk at hb3
    rcases hk' with hk' | ⟨p, hp', hk'⟩
    · obtain ⟨cur, hcu⟩ := ownRow_block hf.row hk'
      rw [← e, hcu] at hb3
      simp at hb3
    · obtain ⟨cur, hcu⟩ := (hf.text p hp').block hk'
      rw [← e, hcu] at hb3
      simp at hb3
  have htext : ∀ (y : Value) (l : List UInt8), Row w2 0 y l → Row (W.setCell ⟨r, 2, none⟩ ov') 0 y l := fun y l hr => hr.same fun k hk' => keep k (hr.lt hk').2 (fun e => by
    obtain ⟨cur, hcu⟩ := hr.block hk'
    have hb2 := hd.blk
    unfold Blk at hb2
    rw [← e, hcu] at hb2
    simp at hb2) (rowOff hr hk' hovB)
  have hov'r : ∀ k, ov'.ownBlock = some k → k ≠ r := fun k hk' e => by
    obtain ⟨cur, hcu⟩ := ownRow_block hrow hk'
    have hbW := hblkW
    unfold Blk at hbW
    rw [← e, hcu] at hbW
    simp at hbW
  refine ⟨⟨u, ov', F1', G ++ [(op, v)], ?_, ?_⟩, ?_⟩
  · exact {
      blk := by
        have h := Blk.set hblkW 2 ov'
        rw [hrun]
        exact h
      f1 := hf.same fun k hk' => keep3 k (hf.lt hk') (blkOff hk') (flsOff hf hk' hovB3)
      p1 := by rw [hp, hrun, hd.p1, b1]
      f2 := hd.f2.same fun k hk' => keep k (hd.f2.lt hk') (hd.ne (.inr (.inl hk'))) (flsOff hd.f2 hk' hovB)
      p2 := by rw [hrun]; exact hd.p2
      ops := by
        rw [cellsR_snoc, List.length_append]
        exact ownRow_same hrow fun k hk' => heap_setCell_other W ⟨r, 2, none⟩ k ov' (hov'r k hk')
      text := fun p hp' => by
        rcases List.mem_append.1 hp' with hp' | hp'
        · exact htext _ _ (hd.text p hp')
        · obtain rfl := List.mem_singleton.1 hp'
          exact htext _ _ hv
      pw := by rw [hrun]; show names8 (G ++ [(op, v)]) = s.ops ++ [op]; rw [names8, List.map_append]; show names8 G ++ _ = _; rw [hd.pw, b3]; rfl
      ok := by
        rw [hrun]
        refine ⟨?_, hd.ok.rise, hd.ok.fit, ?_, ?_⟩
        · show doA op s.now = doAllA (s.ops ++ [op]) s.burn.sure
          rw [doAllA_snoc, ← b3, ← hd.ok.now, b1]
        · intro o h
          rcases List.mem_append.1 h with h | h
          · exact hd.ok.fitO o (by rw [b3]; exact h)
          · obtain rfl := List.mem_singleton.1 h
            exact ho
        · have := hd.ok.few
          rw [b3] at this
          show s.burn.sure.length + (s.ops ++ [op]).length ≤ c + 1
          rw [List.length_append]
          simp
          omega
      small := hc
      fuse := by rw [hrun]; exact hd.fuse }
  · intro k hk'
    rcases hk' with h | h | h | h | ⟨p, hp', h⟩
    · exact .inl (.inl h)
    · rcases hk k h with h | h
      · exact .inl (.inr (.inl h))
      · exact .inr (.inr h)
    · exact .inl (.inr (.inr (.inl h)))
    · rcases hnear k h with h | h
      · exact .inl (.inr (.inr (.inr (.inl h))))
      · exact .inr (.inr (Nat.le_trans hb.size (by simpa [World.setCell] using h)))
    · rcases List.mem_append.1 hp' with hp' | hp'
      · exact .inl (.inr (.inr (.inr (.inr ⟨p, hp', h⟩))))
      · obtain rfl := List.mem_singleton.1 hp'
        exact .inr (.inl h)
  · refine (((OnlyS.of_below (S := rk r fv sv ov F1 F2 G) hb fun k hk' _ => hk').then (only_set W3 r 0 u) fun k _ e => .inl e).then h4 fun k _ e => .inr (.inr (.inr (.inl e)))).then (only_set W r 2 ov') fun k _ e => .inl e
end Go.Proofs.Ytabddeoeihlnnaa
