/- Whatever operation; doAll. -/
import Derived.Test.YtboongdoggggoaaDiskDo
namespace Go.Proofs.Ytboongdoggggoaa
set_option maxRecDepth 20000
open Go.RowKit Go.Maps DiskMath

theorem row_form {w : World} {B : Nat} {v : Value} {l : List UInt8} (h : Row w B v l) : ∃ a c, v = .slice a l.length c ∧ l.length ≤ c := by
  rcases h.2 with ⟨rfl, h0⟩ | ⟨g, cap, cur, rfl, _, _, hn, _⟩
  · exact ⟨none, 0, by rw [h0], by omega⟩
  · exact ⟨_, _, rfl, hn⟩

theorem do_any {w : World} {d o m : Nat} {F : Gf} {op : AOp} {v : Value} {cs : Array Value} (hb : Blk w d 123 cs) (h0 : cs[o]? = some (.map (some m))) (h1 : cs[o + 1]? = some (.int .i64 (tot (pr F) : Int)))
    (hk : Keep w m F) (hf : Fit (pr F)) (hl : F.length ≤ 4095) (ho : FitO op) (hr : Row w 0 v op.b) (hap : ∀ k, foot F k → v.ownBlock ≠ some k) :
    Calls Try.prog 104 #[fp d o, .agg (opC op v)] w fun e w' => e = .returned (.tuple #[]) ∧ Done w d o m F cs (doA op (pr F)) w' := by
  obtain ⟨k, n, q, a, b⟩ := op
  have ho' := ho
  obtain ⟨hk3, hn, hq, ha8, ha, hb4, hb0, ha0⟩ := ho'
  simp only at hk3 hn hq ha8 ha hb4 hb0 ha0 hr
  obtain ⟨ab, cb, rfl, hlc⟩ := row_form hr
  rcases Nat.eq_zero_or_pos k with rfl | hpos
  · exact do_write hb h0 h1 hk hf hl ho hr.bys rfl hlc hap
  · obtain rfl := hb0 (by omega)
    cases hg : getA n F with
    | none => exact do_none hb h0 h1 hk hn hpos hg
    | some x =>
      have hg' := pr_some hg
      have h3 : k = 1 ∨ k = 2 ∨ k = 3 := by omega
      rcases h3 with rfl | rfl | rfl
      · exact do_cut hb h0 h1 hk hf hl hn hg'
      · obtain rfl := ha0 (by omega)
        exact do_remove hb h0 h1 hk hf hl hn hg'
      · obtain rfl := ha0 (by omega)
        exact do_rename hb h0 h1 hk hf hl hn hq hg'

/-- Operations with the slices in which their texts lie. -/
abbrev Go8 := List (AOp × Value)
def cells8 (G : Go8) : List Value := G.flatMap fun p => (opC p.1 p.2).toList

/-- A slice of operations of the program's own. -/
structure Wops (w : World) (ws : Value) (G : Go8) : Prop where
  row : w.ownsRow 0 155 5 ws G.length (cells8 G)
  text : ∀ p ∈ G, Row w 0 p.2 p.1.b

theorem cells8_length (G : Go8) : (cells8 G).length = G.length * 5 := by
  induction G with
  | nil => rfl
  | cons p r ih => simp only [cells8, List.flatMap_cons, List.length_append, List.length_cons] at ih ⊢; rw [ih]; simp [opC]; omega

theorem cells8_at : ∀ (G : Go8) (i : Nat) (p : AOp × Value), G[i]? = some p → ∀ j u, (opC p.1 p.2)[j]? = some u → (cells8 G)[i * 5 + j]? = some u := by
  intro G
  induction G with
  | nil => intro i p h; simp at h
  | cons x r ih =>
    intro i p h j u hj
    have hj5 : j < 5 := by
      have := (Array.getElem?_eq_some_iff.1 hj).1
      simpa [opC] using this
    have hxl : ((opC x.1 x.2).toList).length = 5 := by simp [opC]
    cases i with
    | zero =>
      simp at h
      subst h
      rw [cells8, List.flatMap_cons, List.getElem?_append_left (by rw [hxl]; omega)]
      simpa using hj
    | succ i =>
      have := ih i p (by simpa using h) j u hj
      rw [cells8, List.flatMap_cons, List.getElem?_append_right (by rw [hxl]; omega), hxl, show (i + 1) * 5 + j - 5 = i * 5 + j by omega]
      exact this

theorem ownRow_same {w w' : World} {B e size : Nat} {v : Value} {n : Nat} {xs : List Value} (h : w.ownsRow B e size v n xs) (hk : ∀ k, v.ownBlock = some k → w'.heap[k]? = w.heap[k]?) : w'.ownsRow B e size v n xs := by
  refine ⟨h.1, ?_⟩
  rcases h.2 with h0 | ⟨g, cap, cur, h1, h2, h3, h4⟩
  · exact .inl h0
  · subst h1
    exact .inr ⟨g, cap, cur, rfl, h2, by rw [hk g rfl]; exact h3, h4⟩

theorem ownRow_block {w : World} {B e size : Nat} {v : Value} {n : Nat} {xs : List Value} (h : w.ownsRow B e size v n xs) {k : Nat} (hk : v.ownBlock = some k) : ∃ cur, w.heap[k]? = some (.cells cur e (0, 0)) := by
  rcases h.2 with ⟨h0, _⟩ | ⟨g, cap, cur, h1, h2, h3, h4⟩
  · subst h0; simp [Value.ownBlock] at hk
  · subst h1
    simp [Value.ownBlock] at hk
    subst hk
    exact ⟨cur, h3⟩

theorem Wops.same {w w' : World} {ws : Value} {G : Go8} (h : Wops w ws G) (h1 : ∀ k, ws.ownBlock = some k → w'.heap[k]? = w.heap[k]?) (h2 : ∀ p ∈ G, ∀ k, p.2.ownBlock = some k → w'.heap[k]? = w.heap[k]?) : Wops w' ws G :=
  ⟨ownRow_same h.row h1, fun p hp => (h.text p hp).same (h2 p hp)⟩

theorem Wops.below {w w' : World} {ws : Value} {G : Go8} (h : Wops w ws G) (hb : Below w.heap.size w w') : Wops w' ws G :=
  h.same (fun k hk => hb.block k (World.ownsRow.lt h.row k hk).2) fun p hp k hk => hb.block k ((h.text p hp).lt hk).2

/-- The blocks of a list's operations are not those that an operation may write. -/
theorem Wops.kept {w w' : World} {ws : Value} {G : Go8} {d m : Nat} {F : Gf} {cs : Array Value} (h : Wops w ws G) (hb : Blk w d 123 cs) (hk : Keep w m F) (hap : ∀ p ∈ G, ∀ k, foot F k → p.2.ownBlock ≠ some k) (ho : OnlyS (fun k => k = d ∨ k = m ∨ foot F k) w w') : Wops w' ws G := by
  refine h.same (fun k hk' => ho.block k (World.ownsRow.lt h.row k hk').2 ?_) fun p hp k hk' => ho.block k ((h.text p hp).lt hk').2 ?_
  · obtain ⟨cur, hc⟩ := ownRow_block h.row hk'
    rintro (rfl | rfl | ⟨p, hp, hf⟩)
    · unfold Blk at hb
      rw [hc] at hb
      simp at hb
    · obtain ⟨es, clock, hm, _⟩ := hk.map
      rw [hc] at hm
      cases hm
    · obtain ⟨cur', hc'⟩ := (hk.row p hp).block hf
      rw [hc] at hc'
      simp at hc'
  · rintro (rfl | rfl | hf)
    · exact row_ne_blk (h.text p hp) hb (by decide) hk'
    · exact hk.ne (h.text p hp) hk'
    · exact hap p hp k hf hk'

theorem set_id {cs : Array Value} {o : Nat} {x : Value} (h : cs[o]? = some x) : cs.setIfInBounds o x = cs := by
  apply Array.ext_getElem?
  intro i
  by_cases hi : o = i
  · subst hi
    rw [Array.getElem?_setIfInBounds_self_of_lt (Array.getElem?_eq_some_iff.1 h).1, h]
  · rw [Array.getElem?_setIfInBounds_ne hi]

theorem done_start {w : World} {d o m : Nat} {F : Gf} {cs : Array Value} (hb : Blk w d 123 cs) (h1 : cs[o + 1]? = some (.int .i64 (tot (pr F) : Int))) (hk : Keep w m F) : Done w d o m F cs (pr F) w :=
  ⟨F, hk, rfl, by rw [set_id h1]; exact hb, OnlyS.refl _ _, fun _ h => .inl h⟩

/-- One more. -/
theorem Done.then {w w1 w2 : World} {d o m : Nat} {F F1 : Gf} {cs : Array Value} {L : Fs} (hk : Keep w m F) (hf1 : ∀ k, foot F1 k → foot F k ∨ w.heap.size ≤ k) (ho : OnlyS (fun k => k = d ∨ k = m ∨ foot F k) w w1)
    (h : Done w1 d o m F1 (cs.setIfInBounds (o + 1) (.int .i64 (tot (pr F1) : Int))) L w2) : Done w d o m F cs L w2 := by
  obtain ⟨F2, r1, r2, r3, r4, r5⟩ := h
  have _ := hk
  refine ⟨F2, r1, r2, by rw [set_twice] at r3; exact r3, ho.then r4 fun i hi h => ?_, fun k hk => ?_⟩
  · rcases h with h | h | h
    · exact .inl h
    · exact .inr (.inl h)
    · rcases hf1 i h with h | h
      · exact .inr (.inr h)
      · omega
  · rcases r5 k hk with h | h
    · exact hf1 k h
    · exact .inr (Nat.le_trans ho.size h)

theorem ops_index (W : World) (g n cap i : Nat) (hi : i < n) : (Instr.indexAt 121 (.slice (some ⟨g, 0, none⟩) n cap) (.int .i64 (i : Int))).run Try.prog W = .ok (.pointer (some ⟨g, i * 5, none⟩)) W := by
  have he : Try.prog.elem 121 = 155 := by kernel_rfl
  have hs : (Go.sizeOf 155).run Try.prog W = .ok 5 W := by kernel_rfl
  have ht : Try.prog.underlying 121 = some (.slice (Try.prog.elem 121)) := by rw [he]; exact Try.underlying121
  rw [run_indexAt_slice (h := ht), if_pos (by omega), he, hs]
  simp [Result.andThen, Addr.add]
  exact fun h => h.symm

theorem info_op5 (o : AOp) (v : Value) : (Try.prog.info? 155).map (·.size) = some (opC o v).toList.length := by
  have h : (Try.prog.info? 155).map (·.size) = some 5 := by kernel_rfl
  exact h

/-- The i-th operation. -/
theorem Wops.cells {w : World} {ws : Value} {G : Go8} (h : Wops w ws G) (i : Nat) (p : AOp × Value) (hp : G[i]? = some p) : ∃ g cap, ws = .slice (some ⟨g, 0, none⟩) G.length cap ∧ g < w.heap.size ∧
    ∀ j u, (opC p.1 p.2)[j]? = some u → w.cell? ⟨g, i * 5 + j, none⟩ = some u := by
  have hlt := (List.getElem?_eq_some_iff.1 hp).1
  rcases h.row.2 with ⟨_, h0⟩ | ⟨g, cap, cur, rfl, _, hg, hn, hm, hs, ht⟩
  · omega
  · refine ⟨g, cap, rfl, (Array.getElem?_eq_some_iff.1 hg).1, fun j u hu' => ?_⟩
    have hj5 : j < 5 := by
      have := (Array.getElem?_eq_some_iff.1 hu').1
      simpa [opC] using this
    rw [World.ownsRow.cellAt h.row _ (by omega)]
    exact cells8_at G i p hp j u hu'

def names8 (G : Go8) : List AOp := G.map (·.1)

/-- Between two operations. -/
def AllAt (w : World) (d o m : Nat) (F : Gf) (cs : Array Value) (G : Go8) (s8 : Value) (wr : World) : Prop :=
  ∃ i : Nat, i ≤ G.length ∧ s8 = .int .i64 i ∧ Done w d o m F cs (doAllA (names8 (G.take i)) (pr F)) wr

set_option maxHeartbeats 2000000 in
theorem doAll_any {w : World} {d o m : Nat} {F : Gf} {ws : Value} {G : Go8} {cs : Array Value} (hb : Blk w d 123 cs) (h0 : cs[o]? = some (.map (some m))) (h1 : cs[o + 1]? = some (.int .i64 (tot (pr F) : Int)))
    (hk : Keep w m F) (hf : Fit (pr F)) (hl : F.length + G.length ≤ 4095) (ho : ∀ p ∈ G, FitO p.1) (hw : Wops w ws G) (hap : ∀ p ∈ G, ∀ k, foot F k → p.2.ownBlock ≠ some k) :
    Calls Try.prog 75 #[fp d o, ws] w fun e w' => e = .returned (.tuple #[]) ∧ Done w d o m F cs (doAllA (names8 G) (pr F)) w' := by
  obtain ⟨ga, gc, hws⟩ : ∃ ga gc, ws = .slice ga G.length gc := by
    rcases hw.row.2 with ⟨rfl, h0⟩ | ⟨g, cap, cur, rfl, _⟩
    · exact ⟨none, 0, by rw [h0]⟩
    · exact ⟨_, _, rfl⟩
  subst hws
  obtain ⟨n, hn⟩ : ∃ n, n = G.length := ⟨_, rfl⟩
  have HStart := Lib.hid (done_start (o := o) hb h1 hk)
  have HB := Lib.hid hb
  have H0 := Lib.hid h0
  have H1 := Lib.hid h1
  have HK := Lib.hid hk
  have HF := Lib.hid hf
  have HL := Lib.hid hl
  have HO := Lib.hid ho
  have HW := Lib.hid hw
  have HAp := Lib.hid hap
  rw [← hn] at HW ⊢
  have HN := Lib.hid hn
  have hn4 : n ≤ 4095 := by omega
  clear hb h0 h1 hk hf hl ho hw hap hn
  go_enter Try.func75, Try.ntmps75
  go_wp2
  go_loopw [8] (fun s8 wr => AllAt w d o m F cs G s8 wr) (fun s8 _ => n - (intOf s8).toNat)
  case atStart => exact ⟨0, Nat.zero_le _, rfl, HStart.out⟩
  case round =>
    obtain ⟨i, hi, rfl, hd⟩ := hrel
    have hin : i ≤ n := by have := HN.out; omega
    have HD := Lib.hid hd
    clear hi hd
    by_cases hlt : i < n
    · obtain ⟨p, hp⟩ : ∃ p, G[i]? = some p := ⟨G[i]'(by have := HN.out; omega), List.getElem?_eq_getElem _⟩
      obtain ⟨F1, r1, r2, r3, r4, r5⟩ := HD.out
      have hwr := HW.out
      rw [HN.out] at hwr
      have hwr2 := hwr.kept HB.out HK.out HAp.out r4
      obtain ⟨g, cap, e, -, hload⟩ := hwr2.cells i p hp
      simp at e
      obtain ⟨rfl, rfl⟩ := e
      have hidx : ∀ W, (Instr.indexAt 121 (.slice (some ⟨g, 0, none⟩) n gc) (.int .i64 (i : Int))).run Try.prog W = .ok (.pointer (some ⟨g, i * 5, none⟩)) W := fun W => ops_index W g n gc i hlt
      obtain ⟨j, hj⟩ : ∃ j, j = i * 5 := ⟨_, rfl⟩
      rw [← hj] at hload hidx
      have hpm := List.mem_of_getElem? hp
      have hfit := HO.out p hpm
      have hrow := hwr2.text p hpm
      have hfoot : ∀ k, foot F1 k → p.2.ownBlock ≠ some k := fun k hk e => by
        rcases r5 k hk with h | h
        · exact HAp.out p hpm k h e
        · have := ((hwr.text p hpm).lt e).2
          omega
      have hl1 : F1.length ≤ 4095 := by
        have e1 := congrArg List.length r2
        rw [pr_length] at e1
        have e2 := length_doAll (names8 (G.take i)) (pr F)
        rw [pr_length] at e2
        have e3 : (names8 (G.take i)).length ≤ n := by simp [names8]; omega
        have := HL.out
        have := HN.out
        omega
      have hf1 : Fit (pr F1) := by
        rw [r2]
        refine fit_doAll _ _ HF.out fun q hq => ?_
        obtain ⟨x, hx, rfl⟩ := List.mem_map.1 hq
        exact HO.out x (List.mem_of_mem_take hx)
      rw [← r2] at r3
      have hsn : names8 (G.take (i + 1)) = names8 (G.take i) ++ [p.1] := by
        obtain ⟨hi', rfl⟩ := List.getElem?_eq_some_iff.1 hp
        rw [List.take_succ_eq_append_getElem hi', names8, names8, List.map_append]
        rfl
      have hb1 : Below wr.heap.size wr (wr.alloc (.cells (opC p.1 p.2) 155)) := (Below.refl _ _).alloc (Nat.le_refl _) _
      have hdo := do_any (o := o) (r3.keep hb1) (by rw [set_get_ne]; exact H0.out) (set_get_same cs o _ _ H1.out) (r1.below hb1) hf1 hl1 hfit (hrow.below hb1) hfoot
      have hnext : ∀ w', Done (wr.alloc (.cells (opC p.1 p.2) 155)) d o m F1 (cs.setIfInBounds (o + 1) (.int .i64 (tot (pr F1) : Int))) (doA p.1 (pr F1)) w' → AllAt w d o m F cs G (.int .i64 ((i + 1 : Nat) : Int)) w' := fun w' hd => by
        refine ⟨i + 1, by have := HN.out; omega, rfl, ?_⟩
        rw [hsn, doAllA_snoc, ← r2]
        refine Done.then HK.out (F1 := F1) r5 r4 ?_
        obtain ⟨F2, s1, s2, s3, s4, s5⟩ := hd
        exact ⟨F2, s1, s2, s3, (OnlyS.of_below (S := fun k => k = d ∨ k = m ∨ foot F1 k) hb1 fun k hk _ => hk).then s4 fun _ _ h => h, fun k hk => by
          rcases s5 k hk with h | h
          · exact .inl h
          · exact .inr (Nat.le_trans hb1.size h)⟩
      have HNext := Lib.hid hnext
      have HDo := Lib.hid hdo
      obtain ⟨⟨k, nn, q, a, b⟩, v⟩ := p
      simp only [opC] at hload HDo HNext
      have l0 := hload 0 _ rfl
      have l1 := hload 1 _ rfl
      have l2 := hload 2 _ rfl
      have l3 := hload 3 _ rfl
      have l4 := hload 4 _ rfl
      simp only [Nat.add_zero] at l0
      clear hload
      obtain ⟨N, hN⟩ : ∃ N, nm nn = .string N := ⟨_, rfl⟩
      obtain ⟨M, hM⟩ : ∃ M, nm q = .string M := ⟨_, rfl⟩
      rw [hN, hM] at HDo HNext
      rw [hN] at l1
      rw [hM] at l2
      obtain ⟨va, vc, hv, -⟩ := row_form hrow
      simp only at hv
      subst hv
      have i0 : (0 : Int) ≤ (i : Int) := Int.natCast_nonneg _
      have i1 : (i : Int) < (n : Int) := by omega
      clear hp r1 r2 r3 r4 r5 hwr hwr2 hj hpm hfit hrow hfoot hl1 hf1 hsn hb1 hdo hnext hN hM
      go_wp2_with fail
      refine HDo.out.mono ?_
      rintro e w' ⟨rfl, hd⟩
      have HE := Lib.hid (HNext.out w' hd)
      clear hd l0 l1 l2 l3 l4 hidx
      go_wp2
      go_roundw
      case rel => 
        have h := HE.out
        rw [show ((i + 1 : Nat) : Int) = (i : Int) + 1 by omega] at h
        exact h
      case measure => simp [intOf]; omega
    · obtain rfl : i = n := by omega
      have hd := HD.out
      rw [List.take_of_length_le (by have := HN.out; omega)] at hd
      have HD2 := Lib.hid hd
      clear hd HD
      go_wp2
      go_end0
      exact ⟨rfl, HD2.out⟩
end Go.Proofs.Ytboongdoggggoaa
