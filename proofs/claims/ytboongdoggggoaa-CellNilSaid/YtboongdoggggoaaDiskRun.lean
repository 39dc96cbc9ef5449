/- run: an operation done by a disk, which waits then. -/
import Derived.Test.YtboongdoggggoaaDiskSt
namespace Go.Proofs.Ytboongdoggggoaa
set_option maxRecDepth 20000
open Go.RowKit Go.Maps DiskMath Reg

theorem load_ops (W : World) (p : Addr) (v : Value) (h : W.cell? p = some v) : (Instr.loadAt 121 (.pointer (some p))).run Try.prog W = .ok v W := by
  have hagg : (isAgg 121).run Try.prog W = .ok false W := by kernel_rfl
  simp [Instr.loadAt, Instr.sureAddr, loadVar, Sem.run_bind, hagg, h]

/-- How run ends. -/
structure RunEnd (w : World) (d c : Nat) (s : St) (m1 m2 : Nat) (F1 F2 : Gf) (ws : Value) (G : Go8) (v : Value) (w' : World) : Prop where
  ex : ∃ F1' ws' G', Dk w' d c s m1 m2 F1' F2 ws' G' ∧ ∀ k, tk d m1 m2 F1' F2 ws' G' k → tk d m1 m2 F1 F2 ws G k ∨ v.ownBlock = some k ∨ w.heap.size ≤ k
  only : OnlyS (tk d m1 m2 F1 F2 ws G) w w'

theorem cells8_snoc (G : Go8) (o : AOp) (v : Value) : cells8 (G ++ [(o, v)]) = cells8 G ++ (opC o v).toList := by simp [cells8]

theorem info_op : (Try.prog.info? 155).map (fun i => (i.zero, i.size, i.bytes)) = some (some (.agg #[.int .i64 0, .string ⟨#[]⟩, .string ⟨#[]⟩, .int .i64 0, .slice none 0 0]), 5, 72) := by kernel_rfl

theorem one_op (o : AOp) (v : Value) (hv : v.oneCell' = true) : ∀ u ∈ (opC o v).toList, u.oneCell' = true := by
  intro u hu
  simp [opC, nm] at hu
  rcases hu with rfl | rfl | rfl | rfl | rfl <;> first | rfl | exact hv

/-- append(v, one), the row that was there told, too. -/
theorem append_one {P : Program} (w : World) (t ty e : TypeId) (i : TypeInfo) (z : Value) (size bytes : Nat) (ht : P.underlying t = some (.slice e)) (hi : P.info? e = some i) (hz : i.zero = some z)
    (hsize : i.size = size) (hby : i.bytes = bytes) (hzs : z.cells.size = size) (hsz : 0 < size) (v : Value) (n : Nat) (xs : List Value) (hown : w.ownsRow 0 e size v n xs)
    (x : Nat) (cs : Array Value) (hx : Blk w x e cs) (hl : cs.size = size) (h1 : ∀ u ∈ cs.toList, u.oneCell' = true) (hn : n ≤ 100000) (hb : bytes ≤ 10000) :
    ∃ v' w', (Builtin.append_ #[t, t] ty #[v, .slice (some ⟨x, 0, none⟩) 1 1]).run P w = .ok v' w' ∧ (w'.ownsRow 0 e size v' (n + 1) (xs ++ cs.toList) ∧ w'.ownsRow 0 e size v n xs ∧ OnlyS (fun k => v.ownBlock = some k) w w' ∧ Near w v v') := by
  subst hsize
  subst hby
  have hnb : (n + 1) * i.bytes ≤ 140737488355328 := Nat.le_trans (Nat.mul_le_mul (show n + 1 ≤ 100001 by omega) hb) (by decide)
  have hnews : ∀ j u, cs.toList[j]? = some u → w.cell? ((⟨x, 0, none⟩ : Addr).add j) = some u := fun j u hj => by rw [addr_add, Nat.zero_add, hx.cell]; simpa using hj
  have hcl : cs.toList.length = 1 * i.size := by rw [Array.length_toList, hl]; omega
  have hlen : (xs ++ cs.toList).length = (n + 1) * i.size := by rw [List.length_append, hown.1, hcl, Nat.add_mul]
  have grown : ∀ (old : Nat), old < n + 1 → (w.drew.alloc (.cells (xs.toArray ++ cs.toList.toArray ++ Builtin.zeroCells z.cells (grownCap w (n + 1) old e - (n + 1))) e)).ownsRow 0 e i.size
      (.slice (some ⟨w.heap.size, 0, none⟩) (n + 1) (grownCap w (n + 1) old e)) (n + 1) (xs ++ cs.toList) := by
    intro old ho
    have hge := grownCap_ge w (n + 1) old e
    have hcm : grownCap w (n + 1) old e ≤ maxLen := grownCap_le_maxLen w (n + 1) old e (by unfold maxLen; omega)
    refine ⟨hlen, .inr ⟨w.heap.size, _, _, rfl, Nat.zero_le _, heap_alloc_new w.drew _, hge, hcm, ?_, ?_⟩⟩
    · simp only [Array.size_append, List.size_toArray, size_zeroCells, hzs, hown.1, hcl, ← Nat.add_mul]
      congr 1
      omega
    · simp only [Array.toList_append, List.append_assoc]
      rw [← List.append_assoc, ← hlen]
      exact List.take_left
  have hnew : ∀ (o : Obj), OnlyS (fun k => v.ownBlock = some k) w (w.drew.alloc o) := fun o => ⟨rfl, rfl, rfl, by simp, fun k hk _ => Below.heap_alloc w.drew _ k hk⟩
  rcases hown.2 with ⟨rfl, rfl⟩ | ⟨g, cap, cur, rfl, hbg, hg, hnc, hcm, hcs, htake⟩
  · have hx0 : xs = [] := List.eq_nil_of_length_eq_zero (by simpa using hown.1)
    subst hx0
    have hr := run_append_nil (P := P) w t ty e i z ht hi hz ⟨x, 0, none⟩ 1 1 cs.toList hcl hnews (by omega) (by omega) (by omega)
    have hgr := grown 0 (by omega)
    simp only [Nat.zero_add, List.nil_append, Array.empty_append] at hgr ⊢
    exact ⟨_, _, hr, hgr, World.ownsRow_nil _ _ _ _, hnew _, fun k hk => .inr (by simp [Value.ownBlock] at hk; omega)⟩
  · by_cases hroom : n + 1 ≤ cap
    · have hfit : n * i.size + cs.toList.length ≤ cur.size := by rw [hcl, hcs, ← Nat.add_mul]; exact Nat.mul_le_mul_right _ hroom
      have hr := run_append_room (P := P) w t ty e i ht hi g n cap cur hg ⟨x, 0, none⟩ 1 1 cs.toList hcl hnews h1 hroom hfit
      have hsz2 : (cur.toList.take (n * i.size) ++ cs.toList ++ cur.toList.drop (n * i.size + cs.toList.length)).toArray.size = cap * i.size := by
        simp only [List.size_toArray, List.length_append, List.length_take, List.length_drop, Array.length_toList] at hfit ⊢
        omega
      refine ⟨_, _, hr, ⟨hlen, .inr ⟨g, cap, _, rfl, hbg, setRow_heap w g cur _ e _ hg, hroom, hcm, hsz2, ?_⟩⟩, ⟨hown.1, .inr ⟨g, cap, _, rfl, hbg, setRow_heap w g cur _ e _ hg, hnc, hcm, hsz2, ?_⟩⟩, ⟨rfl, rfl, rfl, by simp, fun k _ hk => setRow_other w g k _ fun e => hk (by simp [Value.ownBlock, e])⟩, near_refl _ _⟩
      · rw [htake, ← hlen]
        exact List.take_left
      · rw [htake, List.append_assoc, ← hown.1]
        exact List.take_left
    · have holds : ∀ j u, xs[j]? = some u → w.cell? ((⟨g, 0, none⟩ : Addr).add j) = some u := hown.cells (g := g) rfl
      have hr := run_append_grow (P := P) w t ty e i z ht hi hz ⟨g, 0, none⟩ n cap xs hown.1 holds ⟨x, 0, none⟩ 1 1 cs.toList hcl hnews (by omega) (by omega) (growslice_fits (by omega) hnb)
      exact ⟨_, _, hr, grown cap (by omega), ownRow_same hown fun k hk => Below.heap_alloc w.drew _ k (World.ownsRow.lt hown k hk).2, hnew _, fun k hk => .inr (by simp [Value.ownBlock] at hk; omega)⟩

/-- append(ws, op). -/
theorem add_op {W : World} {ws : Value} {n : Nat} {xs : List Value} (h : W.ownsRow 0 155 5 ws n xs) (hn : n ≤ 4095) {x : Nat} {cs : Array Value} (hx : Blk W x 155 cs) (hl : cs.size = 5) (h1 : ∀ u ∈ cs.toList, u.oneCell' = true) :
    ∃ v' w', (Builtin.append_ #[121, 121] 121 #[ws, .slice (some ⟨x, 0, none⟩) 1 1]).run Try.prog W = .ok v' w' ∧
      (w'.ownsRow 0 155 5 v' (n + 1) (xs ++ cs.toList) ∧ w'.ownsRow 0 155 5 ws n xs ∧ OnlyS (fun k => ws.ownBlock = some k) W w' ∧ Near W ws v') := by
  obtain ⟨i0, hi, hz0, hz1, hz2⟩ := info_parts info_op
  exact append_one W 121 121 155 i0 (.agg #[.int .i64 0, .string ⟨#[]⟩, .string ⟨#[]⟩, .int .i64 0, .slice none 0 0]) 5 72 Try.underlying121 hi hz0 hz1 hz2 rfl (by decide) ws n xs h x cs hx hl h1 (by omega) (by omega)

theorem row_one {w : World} {B : Nat} {v : Value} {l : List UInt8} (h : Row w B v l) : v.oneCell' = true := by
  obtain ⟨a, c, rfl⟩ := slice_of_row h
  rfl

/-- What is left when an operation was done and has been added. -/
theorem run_end {w2 w3 W : World} {d c : Nat} {s : St} {m1 m2 : Nat} {F1 F2 : Gf} {ws v v' : Value} {G : Go8} {op : AOp} (hd : Dk w2 d c s.burn m1 m2 F1 F2 ws G) (h0 : s.fuse ≠ 0) (hc : c + 1 ≤ 2000) (ho : FitO op) (hv : Row w2 0 v op.b)
    (hva : ∀ k, v.ownBlock = some k → ¬ foot F1 k ∧ ¬ foot F2 k) (hD : Done w2 d 3 m1 F1 (dC s.burn m1 m2 ws) (doA op (pr F1)) w3) (h4 : OnlyS (fun k => ws.ownBlock = some k) w3 W)
    (hrow : W.ownsRow 0 155 5 v' (G.length + 1) (cells8 G ++ (opC op v).toList)) (hnear : Near w3 ws v') : RunEnd w2 d (c + 1) (s.run op) m1 m2 F1 F2 ws G v (W.setCell ⟨d, 7, none⟩ v') := by
  obtain ⟨F1', r1, r2, r3, r4, r5⟩ := hD
  have hsn : s.burn.now = s.now := by unfold St.burn; split; · rfl
                                      split <;> rfl
  have hss : s.burn.sure = s.sure := by unfold St.burn; split; · rfl
                                        split <;> rfl
  have hso : s.burn.ops = s.ops := by unfold St.burn; split; · rfl
                                      split <;> rfl
  have hsr : s.burn.room = s.room := by unfold St.burn; split; · rfl
                                        split <;> rfl
  have hrun : s.run op = { s.burn with now := doA op s.now, ops := s.ops ++ [op] } := by unfold St.run; rw [if_neg h0]
  have hp1 : pr F1 = s.now := by rw [hd.p1, hsn]
  -- what do has left alone
  have nd : ∀ {k : Nat}, k < w2.heap.size → k ≠ d → k ≠ m1 → ¬ foot F1 k → w3.heap[k]? = w2.heap[k]? := fun {k} hk h1 h2 h3 => r4.block k hk (by rintro (h | h | h); exact h1 h; exact h2 h; exact h3 h)
  have hwsB : ∀ k, ws.ownBlock = some k → ∃ cur, w2.heap[k]? = some (.cells cur 155 (0, 0)) := fun k hk => ownRow_block hd.wops.row hk
  have hwsk : ∀ k, ws.ownBlock = some k → k ≠ d ∧ k ≠ m1 ∧ k ≠ m2 ∧ ¬ foot F1 k ∧ ¬ foot F2 k := fun k hk => by
    obtain ⟨cur, hcu⟩ := hwsB k hk
    refine ⟨fun e => ?_, fun e => ?_, fun e => ?_, fun hf => ?_, fun hf => ?_⟩
    · have hb := hd.blk; unfold Blk at hb; rw [← e, hcu] at hb; simp at hb
    · obtain ⟨es, clock, hm, _⟩ := hd.k1.map; rw [← e, hcu] at hm; cases hm
    · obtain ⟨es, clock, hm, _⟩ := hd.k2.map; rw [← e, hcu] at hm; cases hm
    · obtain ⟨p, hp, hf⟩ := hf
      obtain ⟨cur', hc'⟩ := (hd.k1.row p hp).block hf
      rw [hcu] at hc'; simp at hc'
    · obtain ⟨p, hp, hf⟩ := hf
      obtain ⟨cur', hc'⟩ := (hd.k2.row p hp).block hf
      rw [hcu] at hc'; simp at hc'
  -- from w2 to the end, for what is none of d, m1, F1, ws
  have keep : ∀ {k : Nat}, k < w2.heap.size → k ≠ d → k ≠ m1 → ¬ foot F1 k → ws.ownBlock ≠ some k → (W.setCell ⟨d, 7, none⟩ v').heap[k]? = w2.heap[k]? := fun {k} hk h1 h2 h3 h5 => by
    rw [heap_setCell_other W ⟨d, 7, none⟩ k v' h1, h4.block k (Nat.lt_of_lt_of_le hk r4.size) h5, nd hk h1 h2 h3]
  have hm2d : m2 ≠ d := hd.k2.ne_blk hd.blk
  have hk2 : Keep (W.setCell ⟨d, 7, none⟩ v') m2 F2 := by
    refine hd.k2.same (keep hd.k2.lt hm2d (Ne.symm hd.ne) (fun hf => ?_) fun e => (hwsk m2 e).2.2.1 rfl) fun k hf => keep (hd.k2.foot_lt hf) ?_ ?_ (fun h => hd.ap k h hf) fun e => (hwsk k e).2.2.2.2 hf
    · obtain ⟨p, hp, hf⟩ := hf
      exact hd.k2.ne (hd.k1.row p hp) hf
    · obtain ⟨p, hp, hf⟩ := hf
      exact fun e => row_ne_blk (hd.k2.row p hp) hd.blk (by decide) (by rw [hf, e])
    · obtain ⟨p, hp, hf⟩ := hf
      exact fun e => hd.k1.ne (hd.k2.row p hp) (by rw [hf, e])
  have hwsd3 : ¬ (ws.ownBlock = some d) := fun e => (hwsk d e).1 rfl
  have hb3 : Blk W d 123 ((dC s.burn m1 m2 ws).setIfInBounds (3 + 1) (.int .i64 (tot (doA op (pr F1)) : Int))) := r3.only h4 hwsd3
  have hf1ws : ∀ k, foot F1' k → ws.ownBlock ≠ some k := fun k hf e => by
    rcases r5 k hf with h | h
    · exact (hwsk k e).2.2.2.1 h
    · have := (World.ownsRow.lt hd.wops.row k e).2
      omega
  have hk1W : Keep W m1 F1' := r1.same (h4.block m1 r1.lt fun e => (hwsk m1 e).2.1 rfl) fun k hf => h4.block k (r1.foot_lt hf) (hf1ws k hf)
  have hk1 : Keep (W.setCell ⟨d, 7, none⟩ v') m1 F1' := hk1W.setBlk hb3 (by decide) 7 v'
  have hvd : ∀ k, v'.ownBlock = some k → k ≠ d := fun k hk e => by
    obtain ⟨cur, hcu⟩ := ownRow_block hrow hk
    unfold Blk at hb3
    rw [← e, hcu] at hb3
    simp at hb3
  have htext : ∀ (u : Value) (t : List UInt8), Row w2 0 u t → (∀ k, u.ownBlock = some k → ¬ foot F1 k) → Row (W.setCell ⟨d, 7, none⟩ v') 0 u t := fun u t hr hu => hr.same fun k hk => by
    refine keep (hr.lt hk).2 (fun e => row_ne_blk hr hd.blk (by decide) (by rw [hk, e])) (fun e => hd.k1.ne hr (by rw [hk, e])) (hu k hk) fun e => ?_
    obtain ⟨cur, hcu⟩ := hr.block hk
    obtain ⟨cur', hcu'⟩ := hwsB k e
    rw [hcu] at hcu'
    simp at hcu'
  refine ⟨⟨F1', v', G ++ [(op, v)], ?_, ?_⟩, ?_⟩
  · exact {
      blk := by
        have h := Blk.set hb3 7 v'
        rw [hrun]
        have e : dC { s.burn with now := doA op s.now, ops := s.ops ++ [op] } m1 m2 v' = ((dC s.burn m1 m2 ws).setIfInBounds (3 + 1) (.int .i64 (tot (doA op (pr F1)) : Int))).setIfInBounds 7 v' := by rw [hp1]; rfl
        rw [e]
        exact h
      k1 := hk1
      p1 := by rw [r2, hrun, hp1]
      k2 := hk2
      p2 := by rw [hrun]; exact hd.p2
      wops := ⟨by
        rw [cells8_snoc, List.length_append]
        exact ownRow_same hrow fun k hk => heap_setCell_other W ⟨d, 7, none⟩ k v' (hvd k hk), fun p hp => by
        rcases List.mem_append.1 hp with hp | hp
        · exact htext _ _ (hd.wops.text p hp) fun k hk => (hd.apo p hp k hk).1
        · obtain rfl := List.mem_singleton.1 hp
          exact htext _ _ hv fun k hk => (hva k hk).1⟩
      pw := by rw [hrun]; show names8 (G ++ [(op, v)]) = s.ops ++ [op]; rw [names8, List.map_append]; show names8 G ++ _ = _; rw [hd.pw, hso]; rfl
      ok := by
        rw [hrun]
        refine ⟨?_, ?_, ?_, ?_, ?_⟩
        · show doA op s.now = doAllA (s.ops ++ [op]) s.burn.sure
          rw [doAllA_snoc, ← hso, ← hd.ok.now, hsn]
        · exact hd.ok.rise
        · exact hd.ok.fit
        · intro o h
          rcases List.mem_append.1 h with h | h
          · exact hd.ok.fitO o (by rw [hso]; exact h)
          · obtain rfl := List.mem_singleton.1 h
            exact ho
        · have := hd.ok.few
          rw [hso] at this
          show s.burn.sure.length + (s.ops ++ [op]).length ≤ c + 1
          rw [List.length_append]
          simp
          omega
      small := hc
      ne := hd.ne
      ap := fun k hf h2 => by
        rcases r5 k hf with h | h
        · exact hd.ap k h h2
        · have := hd.k2.foot_lt h2
          omega
      apo := fun p hp k hk => by
        have hold : ∀ (u : Value) (t : List UInt8), Row w2 0 u t → u.ownBlock = some k → ¬ foot F1 k → ¬ foot F1' k := fun u t hr hu hn hf => by
          rcases r5 k hf with h | h
          · exact hn h
          · have := (hr.lt hu).2
            omega
        rcases List.mem_append.1 hp with hp | hp
        · exact ⟨hold _ _ (hd.wops.text p hp) hk (hd.apo p hp k hk).1, (hd.apo p hp k hk).2⟩
        · obtain rfl := List.mem_singleton.1 hp
          exact ⟨hold _ _ hv hk (hva k hk).1, (hva k hk).2⟩
      fuse := by rw [hrun]; exact hd.fuse }
  · intro k hk
    rcases hk with h | h | h | h | h | h | ⟨p, hp, h⟩
    · exact .inl (.inl h)
    · exact .inl (.inr (.inl h))
    · exact .inl (.inr (.inr (.inl h)))
    · rcases r5 k h with h | h
      · exact .inl (.inr (.inr (.inr (.inl h))))
      · exact .inr (.inr h)
    · exact .inl (.inr (.inr (.inr (.inr (.inl h)))))
    · rcases hnear k h with h | h
      · exact .inl (.inr (.inr (.inr (.inr (.inr (.inl h))))))
      · exact .inr (.inr (Nat.le_trans r4.size h))
    · rcases List.mem_append.1 hp with hp | hp
      · exact .inl (.inr (.inr (.inr (.inr (.inr (.inr ⟨p, hp, h⟩))))))
      · obtain rfl := List.mem_singleton.1 hp
        exact .inr (.inl h)
  · refine ((r4.mono fun k _ h => ?_).then h4 fun k _ h => .inr (.inr (.inr (.inr (.inr (.inl h)))))).then (only_set W d 7 v') fun k _ h => .inl h
    rcases h with h | h | h
    · exact .inl h
    · exact .inr (.inl h)
    · exact .inr (.inr (.inr (.inl h)))

theorem RunEnd.ahead {w W w' : World} {d c : Nat} {s : St} {m1 m2 : Nat} {F1 F2 : Gf} {ws : Value} {G : Go8} {v : Value} (h : RunEnd W d c s m1 m2 F1 F2 ws G v w') (ho : OnlyS (tk d m1 m2 F1 F2 ws G) w W) : RunEnd w d c s m1 m2 F1 F2 ws G v w' := by
  obtain ⟨⟨F1', ws', G', h1, h2⟩, h3⟩ := h
  refine ⟨⟨F1', ws', G', h1, fun k hk => ?_⟩, ho.then h3 fun _ _ h => h⟩
  rcases h2 k hk with h | h | h
  · exact .inl h
  · exact .inr (.inl h)
  · exact .inr (.inr (Nat.le_trans ho.size h))

/-- A block of the call's own, and what it holds, behind a burn. -/
theorem only_d_blk {w w' : World} {d g : Nat} {t : TypeId} {cs : Array Value} (h : Blk w g t cs) (ho : OnlyS (fun k => k = d) w w') (hne : g ≠ d) : Blk w' g t cs := h.only ho hne

theorem build_op (W : World) (x0 x1 x2 x3 x4 : Value) : (Instr.buildSlice 121 1 #[(0, .agg #[x0, x1, x2, x3, x4])]).run Try.prog W = .ok (.slice (some ⟨W.heap.size, 0, none⟩) 1 1) (W.alloc (.cells #[x0, x1, x2, x3, x4] 155)) := by
  have hz : (zeroValue 155).run Try.prog W = .ok (.agg #[.int .i64 0, .string ⟨#[]⟩, .string ⟨#[]⟩, .int .i64 0, .slice none 0 0]) W := by kernel_rfl
  have hr : Array.range 5 = #[0, 1, 2, 3, 4] := by decide
  simp [Instr.buildSlice, run_underlying Try.underlying121, Result.andThen, hz, Instr.fill, newRow, Value.cells, hr]

set_option maxHeartbeats 2000000 in
theorem run_any {w : World} {d c : Nat} {s : St} {m1 m2 : Nat} {F1 F2 : Gf} {ws v : Value} {G : Go8} {op : AOp} (hd : Dk w d c s m1 m2 F1 F2 ws G) (hc : c + 1 ≤ 2000) (ho : FitO op) (hv : Row w 0 v op.b)
    (hva : ∀ k, v.ownBlock = some k → ¬ foot F1 k ∧ ¬ foot F2 k) :
    Calls Try.prog 136 #[dp d, .agg (opC op v)] w fun e w' => e = .returned (.int .i64 (s.said : Int)) ∧ RunEnd w d (c + 1) (s.run op) m1 m2 F1 F2 ws G v w' := by
  have hb1 : Below w.heap.size w (w.alloc (.cells (opC op v) 155)) := (Below.refl _ _).alloc (Nat.le_refl _) _
  have hd1 : Dk (w.alloc (.cells (opC op v) 155)) d c s m1 m2 F1 F2 ws G := hd.same fun k hk => hb1.block k (hd.lt hk)
  have HBurn := Lib.hid (burn_any hd1)
  have hgd : w.heap.size ≠ d := fun e => by have := hd.blk.lt; omega
  have hbox : Blk (w.alloc (.cells (opC op v) 155)) w.heap.size 155 (opC op v) := Blk.new w _ _
  have HBox := Lib.hid hbox
  have HB1 := Lib.hid hb1
  have HD := Lib.hid hd
  have HV := Lib.hid hv
  have HVa := Lib.hid hva
  have HO := Lib.hid ho
  have HOne := Lib.hid (row_one hv)
  clear hb1 hd1 hbox hd hv hva ho
  obtain ⟨k, n, q, a, b⟩ := op
  obtain ⟨N, hN⟩ : ∃ N, nm n = .string N := ⟨_, rfl⟩
  obtain ⟨M, hM⟩ : ∃ M, nm q = .string M := ⟨_, rfl⟩
  obtain ⟨cs, hcs⟩ : ∃ cs, cs = opC ⟨k, n, q, a, b⟩ v := ⟨_, rfl⟩
  have hcs2 : cs = #[.int .i64 (k : Int), .string N, .string M, .int .i64 (a : Int), v] := by rw [hcs, opC]; simp only; rw [hN, hM]
  rw [← hcs] at HBurn HBox HB1 ⊢
  have HCs := Lib.hid hcs
  have HCs2 := Lib.hid hcs2
  clear hcs hcs2 hN hM
  by_cases h0 : s.fuse = 0
  · have hr : s.run ⟨k, n, q, a, b⟩ = s.burn := by unfold St.run; rw [if_pos h0]
    have hs : s.said = 6 := by unfold St.said; rw [if_pos h0]
    have hb : decide (s.fuse ≠ 0) = false := by simp [h0]
    rw [hb] at HBurn
    rw [hr, hs]
    clear hr hs hb h0
    go_enter Try.func136, Try.ntmps136
    go_wp2_with fail
    refine HBurn.out.mono ?_
    rintro e w2 ⟨rfl, hd2, ho2⟩
    have HEnd : Hid (RunEnd w d (c + 1) s.burn m1 m2 F1 F2 ws G v w2) := ⟨⟨F1, ws, G, { hd2 with ok := { hd2.ok with few := Nat.le_succ_of_le hd2.ok.few }, small := hc }, fun k hk => .inl hk⟩, (OnlyS.of_below (S := tk d m1 m2 F1 F2 ws G) HB1.out fun k hk _ => hk).then ho2 fun k _ e => .inl e⟩
    clear hd2 ho2
    go_wp2
    go_ret
    exact ⟨rfl, HEnd.out⟩
  · have hs : s.said = 0 := by unfold St.said; rw [if_neg h0]
    have hb : decide (s.fuse ≠ 0) = true := by simp [h0]
    rw [hb] at HBurn
    rw [hs]
    have H0 := Lib.hid h0
    clear h0 hs hb
    go_enter Try.func136, Try.ntmps136
    go_wp2_with fail
    refine HBurn.out.mono ?_
    rintro e w2 ⟨rfl, hd2, ho2⟩
    have hbox2 := only_d_blk HBox.out ho2 hgd
    have HBox2 := Lib.hid hbox2
    have HD2 := Lib.hid hd2
    have HO2 := Lib.hid ho2
    clear hbox2 hd2 ho2 HBurn
    go_wp2
    refine region_tail 4 (by kernel_rfl) (by kernel_rfl) (Sames w2) (sames_drew w2) ?_
    intro W hW
    have hbw := hW.blk HBox2.out
    rw [HCs2.out] at hbw
    have d0 : W.cell? ⟨w.heap.size, 0, none⟩ = some (.int .i64 (k : Int)) := by rw [Blk.cell hbw]; rfl
    have d1 : W.cell? ⟨w.heap.size, 1, none⟩ = some (.string N) := by rw [Blk.cell hbw]; rfl
    have d2 : W.cell? ⟨w.heap.size, 2, none⟩ = some (.string M) := by rw [Blk.cell hbw]; rfl
    have d3 : W.cell? ⟨w.heap.size, 3, none⟩ = some (.int .i64 (a : Int)) := by rw [Blk.cell hbw]; rfl
    have d4 : W.cell? ⟨w.heap.size, 4, none⟩ = some v := by rw [Blk.cell hbw]; rfl
    have HW := Lib.hid hW
    clear hW hbw
    simp only [List.take_succ_cons, List.take_zero, List.drop_succ_cons, List.drop_zero]
    repeat (first | go_big_quiet_skip | (go_big_quiet_want; go_big_quiet_op; go_big_quiet_on))
    refine wpQuiet_nil ?_
    have hvW : Row W 0 v b := HW.out.row ((HV.out.below HB1.out).same fun j hj => HO2.out.block j (Nat.lt_of_lt_of_le (HV.out.lt hj).2 HB1.out.size) fun e => row_ne_blk HV.out HD.out.blk (by decide) (by rw [hj, e]))
    have hdW : Dk W d c s.burn m1 m2 F1 F2 ws G := HD2.out.same fun k _ => by rw [HW.out.heap]
    have hdo := do_any (o := 3) hdW.blk rfl (by rw [hdW.p1]; rfl) hdW.k1 (by rw [hdW.p1]; exact hdW.ok.fitN) (by
      have h := hdW.ok.fewN
      rw [← hdW.p1, pr_length] at h
      omega) HO.out hvW (fun j hf e => (HVa.out j e).1 hf)
    rw [← HCs.out, HCs2.out] at hdo
    have HDo := Lib.hid hdo
    have HDW := Lib.hid hdW
    have HVW := Lib.hid hvW
    clear hvW hdW hdo
    go_wp2_with fail
    refine HDo.out.mono ?_
    rintro e w3 ⟨rfl, hDone⟩
    have HDone := Lib.hid hDone
    clear hDone HDo d0 d1 d2 d3 d4
    go_wp2
    obtain ⟨hbx3, hws3, hb73⟩ : Blk w3 w.heap.size 155 cs ∧ w3.ownsRow 0 155 5 ws G.length (cells8 G) ∧ w3.cell? ⟨d, 7, none⟩ = some ws := by
      obtain ⟨F1', r1, r2, r3, r4, r5⟩ := HDone.out
      refine ⟨?_, ((HDW.out.wops).kept HDW.out.blk HDW.out.k1 (fun p hp k hf e => (HDW.out.apo p hp k e).1 hf) r4).row, ?_⟩
      · have hb := HW.out.blk HBox2.out
        refine hb.only r4 ?_
        rintro (h | h | h)
        · exact hgd h
        · have := HD.out.k1.lt
          omega
        · have := HD.out.k1.foot_lt h
          omega
      · rw [Blk.cell r3]
        rfl
    have hwsg : ws.ownBlock ≠ some w.heap.size := fun e => by
      have := (World.ownsRow.lt HD.out.wops.row _ e).2
      omega
    have hwsd : ws.ownBlock ≠ some d := fun e => by
      obtain ⟨cur, hcu⟩ := ownRow_block HD.out.wops.row e
      have hb := HD.out.blk
      unfold Blk at hb
      rw [hcu] at hb
      simp at hb
    have hd3 : d < w3.heap.size := World.block_lt_of_cell? w3 ⟨d, 7, none⟩ hb73
    have hG : ∀ W W' : World, (OnlyS (fun k => ws.ownBlock = some k) w3 W ∧ W.ownsRow 0 155 5 ws G.length (cells8 G)) → Below W.heap.size W W' → (OnlyS (fun k => ws.ownBlock = some k) w3 W' ∧ W'.ownsRow 0 155 5 ws G.length (cells8 G)) := fun W W' hW hb =>
      ⟨hW.1.then (OnlyS.of_below (S := fun _ => False) hb fun k hk _ => hk) (fun _ _ h => h.elim), ownRow_same hW.2 fun k hk => hb.block k (World.ownsRow.lt hW.2 k hk).2⟩
    have HBx3 := Lib.hid hbx3
    have HB73 := Lib.hid hb73
    have HWs3 := Lib.hid hws3
    have hcs5 : cs.size = 5 := by rw [HCs2.out]; rfl
    have hone : ∀ u ∈ cs.toList, u.oneCell' = true := by rw [HCs.out]; exact one_op _ _ HOne.out
    have hGl : G.length ≤ 2000 := by
      have h := HDW.out.ok.few
      have e : G.length = s.burn.ops.length := by rw [← HDW.out.pw]; simp [names8]
      have := HD.out.small
      omega
    refine region_tail_by 10 _ [(13, .is (dp d)), (14, .is (dp d)), (15, .is (dp d)), (16, .is (.pointer (some ⟨d, 7, none⟩))), (17, .is ws), (18, .is (.agg cs)), (19, .sat (fun u W => ∃ g, u = .slice (some ⟨g, 0, none⟩) 1 1 ∧ Blk W g 155 cs) (fun u W W' ⟨g, h1, h2⟩ hb => ⟨g, h1, h2.keep hb⟩)), (20, .sat (fun u W => W.ownsRow 0 155 5 u (G.length + 1) (cells8 G ++ cs.toList) ∧ Near w3 ws u) (fun u W W' ⟨h1, h2⟩ hb => ⟨ownRow_same h1 fun k hk => hb.block k (World.ownsRow.lt h1 k hk).2, h2⟩)), (21, .is (dp d)), (22, .is (.pointer (some ⟨d, 7, none⟩)))] [20, 22]
      (fun W => OnlyS (fun k => ws.ownBlock = some k) w3 W ∧ W.ownsRow 0 155 5 ws G.length (cells8 G)) (by kernel_rfl) (by kernel_rfl) (by kernel_rfl) (by kernel_rfl) (by kernel_rfl) rfl rfl rfl rfl (by kernel_rfl) (hG _ _ ⟨OnlyS.refl _ _, HWs3.out⟩ (Below.refl _ _).drew) ?_ ?_
    · refine ⟨?c0, ?c1, ?c2, ?c3, ?c4, ?c5, ?c6, ?c7, ?c8, ?c9, trivial⟩
      case c0 => exact ask_copy (guard_none rfl) (.tmp 0) (.inl rfl) (by intro k hk; cases hk; rfl)
      case c1 => exact ask_copy (guard_none rfl) (.tmp 0) (.inl rfl) (by intro k hk; cases hk; rfl)
      case c2 => exact ask_exec (guard_none rfl) (dp d) rfl rfl (by intro k hk; cases hk; rfl) (fun W hW => by kernel_rfl)
      case c3 => exact ask_field (guard_none rfl) _ (.tmp 15) 5 (dp d) (.pointer (some ⟨d, 7, none⟩)) rfl rfl (by intro k hk; cases hk; rfl) (fun W => by kernel_rfl)
      case c4 => exact ask_load (guard_none rfl) _ (.tmp 16) (.pointer (some ⟨d, 7, none⟩)) ws rfl rfl (by intro k hk; cases hk; rfl) (fun W hW => load_ops W _ _ (by rw [World.cell?_of_block (w := w3) (hW.1.block d hd3 hwsd)]; exact HB73.out))
      case c5 => exact ask_load (guard_none rfl) _ (.tmp 3) (.pointer (some ⟨w.heap.size, 0, none⟩)) (.agg cs) rfl rfl (by intro k hk; cases hk; rfl) (fun W hW => (HBx3.out.only hW.1 hwsg).loads _ _ Try.underlying155 rfl (by rw [hcs5]; kernel_rfl))
      case c6 => exact ask_grow hG (guard_none rfl) (fun x W hW hk => by
        have e18 : x 18 = .agg cs := hk 18 rfl
        refine gives_value (v := .slice (some ⟨W.heap.size, 0, none⟩) 1 1) (w' := W.alloc (.cells cs 155)) ?_ ⟨(Below.refl _ _).alloc (Nat.le_refl _) _, fun k hk => by cases hk; exact ⟨_, rfl, Blk.new W _ _⟩⟩
        have hr := build_op W (.int .i64 (k : Int)) (.string N) (.string M) (.int .i64 (a : Int)) v
        rw [← HCs2.out] at hr
        simp [execOp, evalBy, e18, hr, Result.andThen])
      case c7 => exact ask_write (guard_none rfl) (by kernel_rfl) (fun x W hW hk => by
        have e17 : x 17 = ws := hk 17 rfl
        obtain ⟨g, e19, hg⟩ : ∃ g, x 19 = .slice (some ⟨g, 0, none⟩) 1 1 ∧ Blk W g 155 cs := hk 19 rfl
        obtain ⟨v', w', hr, q1, q2, q3, q4⟩ := add_op hW.2 (by omega) hg hcs5 hone
        refine gives_value (v := v') (w' := w') ?_ ⟨⟨hW.1.then q3 fun _ _ h => h, q2⟩, fun k hk => by
          cases hk
          exact ⟨q1, fun j hj => by
            rcases q4 j hj with h | h
            · exact .inl h
            · exact .inr (Nat.le_trans hW.1.size h)⟩⟩
        simp [execOp, evalBy, resolve, invoke, builtin, e17, e19, hr, Result.andThen])
      case c8 => exact ask_exec (guard_none rfl) (dp d) rfl rfl (by intro k hk; cases hk; rfl) (fun W hW => by kernel_rfl)
      case c9 => exact ask_field (guard_none rfl) _ (.tmp 21) 5 (dp d) (.pointer (some ⟨d, 7, none⟩)) rfl rfl (by intro k hk; cases hk; rfl) (fun W => by kernel_rfl)
    · intro a' W7 hW7 hd7 hs7 hf7
      obtain ⟨t20, hnear⟩ : W7.ownsRow 0 155 5 (a'.tmps.getD 20 undef) (G.length + 1) (cells8 G ++ cs.toList) ∧ Near w3 ws (a'.tmps.getD 20 undef) := hf7 20 rfl
      have t22 : a'.tmps.getD 22 undef = .pointer (some ⟨d, 7, none⟩) := hf7 22 rfl
      obtain ⟨us, hus, ha'⟩ := act_open 23 a' hs7 hd7
      rw [← hus] at t20 hnear t22
      have el : ((List.range 23).map us).toArray = #[us 0, us 1, us 2, us 3, us 4, us 5, us 6, us 7, us 8, us 9, us 10, us 11, us 12, us 13, us 14, us 15, us 16, us 17, us 18, us 19, us 20, us 21, us 22] := rfl
      rw [el] at ha'
      subst ha'
      rw [t22]
      obtain ⟨va, vc, hv'⟩ : ∃ va vc, us 20 = .slice va (G.length + 1) vc := by
        rcases t20.2 with ⟨_, h0⟩ | ⟨g, cap, cur, h, _⟩
        · omega
        · exact ⟨_, _, h⟩
      have HEnd := Lib.hid (((run_end HDW.out H0.out hc HO.out HVW.out HVa.out HDone.out hW7.1 (by rw [← HCs.out]; exact t20) hnear)).ahead (((OnlyS.of_below (S := tk d m1 m2 F1 F2 ws G) HB1.out fun k hk _ => hk).then HO2.out fun k _ e => .inl e).then (HW.out.only (fun _ => False)) fun _ _ h => h.elim))
      rw [hv'] at HEnd ⊢
      have c7 : W7.cell? ⟨d, 7, none⟩ = some ws := by rw [World.cell?_of_block (w := w3) (hW7.1.block d hd3 hwsd)]; exact HB73.out
      have f7 : W7.frozen? ⟨d, 7, none⟩ = false := by
        obtain ⟨F1', r1, r2, r3, r4, r5⟩ := HDone.out
        exact Blk.frozen (r3.only hW7.1 hwsd) 7
      clear hus t20 t22 hnear el hf7 hs7 hd7 hW7 hv'
      go_wp2
      go_ret
      exact ⟨rfl, HEnd.out⟩
end Go.Proofs.Ytboongdoggggoaa
