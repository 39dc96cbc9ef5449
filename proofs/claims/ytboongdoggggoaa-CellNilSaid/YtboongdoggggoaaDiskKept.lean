/- kept: what a crash leaves of what waited. -/
import Derived.Test.YtboongdoggggoaaDiskSync
namespace Go.Proofs.Ytboongdoggggoaa
set_option maxRecDepth 20000
open Go.RowKit Go.Maps DiskMath Reg

/-- A slice of bools, wherever it lies. -/
def Bls (w : World) (v : Value) (ks : List Bool) : Prop :=
  ∃ a cap, v = .slice a ks.length cap ∧ ∀ i b, ks[i]? = some b → ∃ ad, a = some ad ∧ w.cell? (ad.add i) = some (.bool b)

theorem Bls.below {w w' : World} {v : Value} {ks : List Bool} (h : Bls w v ks) (hb : Below w.heap.size w w') : Bls w' v ks := by
  obtain ⟨a, cap, e, hc⟩ := h
  refine ⟨a, cap, e, fun i b hi => ?_⟩
  obtain ⟨ad, e2, h1⟩ := hc i b hi
  exact ⟨ad, e2, by rw [hb.cell (World.block_lt_of_cell? w _ h1)]; exact h1⟩

def keptG : Go8 → List Bool → Go8
  | [], _ => []
  | _, [] => []
  | o :: os, k :: ks => if k then o :: keptG os ks else keptG os ks

theorem keptG_names : ∀ (G : Go8) (ks : List Bool), names8 (keptG G ks) = keptA (names8 G) ks
  | [], ks => by cases ks <;> rfl
  | o :: os, [] => rfl
  | o :: os, k :: ks => by
    have ih := keptG_names os ks
    cases k
    · simpa [keptG, keptA, names8] using ih
    · simp only [keptG, keptA, names8, if_true, List.map_cons] at ih ⊢
      rw [ih]

theorem keptG_snoc : ∀ (G : Go8) (ks : List Bool) (i : Nat) (p : AOp × Value), G[i]? = some p → keptG (G.take (i + 1)) ks = keptG (G.take i) ks ++ (if ks[i]? = some true then [p] else [])
  | [], ks, i, p, h => by simp at h
  | o :: os, [], i, p, _ => by cases i <;> simp [keptG]
  | o :: os, k :: ks, 0, p, h => by
    simp at h
    subst h
    cases k <;> cases os <;> cases ks <;> simp [keptG]
  | o :: os, k :: ks, i + 1, p, h => by
    have ih := keptG_snoc os ks i p (by simpa using h)
    cases k
    · simpa [keptG] using ih
    · simp only [List.take_succ_cons, keptG, if_true, List.cons_append, List.getElem?_cons_succ] at ih ⊢
      rw [ih]

theorem keptG_sub : ∀ (G : Go8) (ks : List Bool), ∀ p ∈ keptG G ks, p ∈ G
  | [], ks, p, h => by cases ks <;> cases h
  | o :: os, [], p, h => by cases h
  | o :: os, k :: ks, p, h => by
    cases k
    · exact List.mem_cons_of_mem _ (keptG_sub os ks p (by simpa [keptG] using h))
    · simp only [keptG, if_true] at h
      rcases List.mem_cons.1 h with rfl | h
      · simp
      · exact List.mem_cons_of_mem _ (keptG_sub os ks p h)

theorem keptG_length : ∀ (G : Go8) (ks : List Bool), (keptG G ks).length ≤ G.length
  | [], ks => by cases ks <;> simp [keptG]
  | o :: os, [] => by simp [keptG]
  | o :: os, k :: ks => by
    have := keptG_length os ks
    cases k <;> simp [keptG] <;> omega

/-- How kept ends. -/
def KeptEnd (w : World) (v : Value) (G : Go8) (w' : World) : Prop :=
  Wops w' v G ∧ (∀ k, v.ownBlock = some k → w.heap.size ≤ k) ∧ Below w.heap.size w w'

/-- Between two rounds. -/
def KeptAt (w : World) (G : Go8) (ks : List Bool) (s7 s13 : Value) (wr : World) : Prop :=
  ∃ i : Nat, i ≤ G.length ∧ s13 = .int .i64 i ∧ wr.ownsRow 0 155 5 s7 (keptG (G.take i) ks).length (cells8 (keptG (G.take i) ks)) ∧ (∀ k, s7.ownBlock = some k → w.heap.size ≤ k) ∧ Below w.heap.size w wr

theorem only_own {w W W' : World} {v : Value} (hb : Below w.heap.size w W) (hv : ∀ k, v.ownBlock = some k → w.heap.size ≤ k) (ho : OnlyS (fun k => v.ownBlock = some k) W W') : Below w.heap.size w W' :=
  ⟨ho.os.trans hb.os, ho.tape.trans hb.tape, ho.output.trans hb.output, Nat.le_trans hb.size ho.size, fun k hk => (ho.block k (Nat.lt_of_lt_of_le hk hb.size) fun e => by have := hv k e; omega).trans (hb.block k hk)⟩

theorem near_new {w W : World} {v v' : Value} (hs : w.heap.size ≤ W.heap.size) (hv : ∀ k, v.ownBlock = some k → w.heap.size ≤ k) (hn : Near W v v') : ∀ k, v'.ownBlock = some k → w.heap.size ≤ k := fun k hk => by
  rcases hn k hk with h | h
  · exact hv k h
  · omega

theorem wops_slice {w : World} {ws : Value} {G : Go8} (h : w.ownsRow 0 155 5 ws G.length (cells8 G)) : ∃ a c, ws = .slice a G.length c := by
  rcases h.2 with ⟨rfl, h0⟩ | ⟨g, cap, cur, rfl, _⟩
  · exact ⟨none, 0, by rw [h0]⟩
  · exact ⟨_, _, rfl⟩

theorem bools_index (W : World) (ad : Addr) (n cap i : Nat) (hi : i < n) : (Instr.indexAt 64 (.slice (some ad) n cap) (.int .i64 (i : Int))).run Try.prog W = .ok (.pointer (some (ad.add i))) W := by
  have he : Try.prog.elem 64 = 4 := by kernel_rfl
  have hs : (Go.sizeOf 4).run Try.prog W = .ok 1 W := by kernel_rfl
  have ht : Try.prog.underlying 64 = some (.slice (Try.prog.elem 64)) := by rw [he]; exact Try.underlying64
  rw [run_indexAt_slice (h := ht), if_pos (by omega), he, hs]
  simp [Result.andThen]

theorem Sames.setCell {w W : World} (h : Sames w W) (a : Addr) (u : Value) : Sames (w.setCell a u) (W.setCell a u) :=
  ⟨by simp [World.setCell, h.heap], h.os, h.tape, h.output⟩

theorem KeptEnd.sames {w w1 W : World} {v : Value} {G : Go8} (h : KeptEnd w v G w1) (hs : Sames w1 W) : KeptEnd w v G W :=
  ⟨h.1.below hs.below, h.2.1, h.2.2.trans (hs.below.mono h.2.2.size)⟩

theorem torn_set {wo : World} {g cap : Nat} {G0 : Go8} {k : Nat} {n q : Nm} {a : Nat} {b : List UInt8} {va : Option Addr} {vb vc Q : Nat} (h : wo.ownsRow 0 155 5 (.slice (some ⟨g, 0, none⟩) (G0.length + 1) cap) (G0.length + 1) (cells8 (G0 ++ [(⟨k, n, q, a, b⟩, .slice va vb vc)]))) :
    (wo.setCell ⟨g, G0.length * 5 + 4, none⟩ (.slice va Q vc)).ownsRow 0 155 5 (.slice (some ⟨g, 0, none⟩) (G0.length + 1) cap) (G0.length + 1) (cells8 (G0 ++ [(⟨k, n, q, a, b.take Q⟩, .slice va Q vc)])) ∧
      wo.cell? ⟨g, G0.length * 5 + 4, none⟩ = some (.slice va vb vc) ∧ wo.frozen? ⟨g, G0.length * 5 + 4, none⟩ = false := by
  have hl := cells8_length G0
  have e : (cells8 (G0 ++ [(⟨k, n, q, a, b⟩, .slice va vb vc)])).set (G0.length * 5 + 4) (.slice va Q vc) = cells8 (G0 ++ [(⟨k, n, q, a, b.take Q⟩, .slice va Q vc)]) := by
    rw [cells8_snoc, cells8_snoc, List.set_append_right _ _ (by rw [hl]; omega), hl, show G0.length * 5 + 4 - G0.length * 5 = 4 by omega]
    rfl
  have h1 := (World.ownsRow.stored h (G0.length * 5 + 4) (.slice va Q vc)).1
  rw [e] at h1
  refine ⟨h1, ?_, World.ownsRow.frozenAt h _⟩
  rw [World.ownsRow.cellAt h _ (by omega), cells8_snoc, List.getElem?_append_right (by rw [hl]; omega), hl, show G0.length * 5 + 4 - G0.length * 5 = 4 by omega]
  rfl

theorem tornA_last (torn : Int) (o : AOp) : ∀ (xs : List AOp), tornA torn (xs ++ [o]) = xs ++ [{ o with b := o.b.take (max torn 0).toNat }]
  | [] => rfl
  | [x] => rfl
  | x :: y :: r => by
    have ih := tornA_last torn o (y :: r)
    simp only [List.cons_append] at ih ⊢
    rw [tornA, ih]

set_option maxHeartbeats 1000000 in
theorem kept_any {w : World} {ws : Value} {G : Go8} {ka : Option Addr} {nk ck : Nat} {ks : List Bool} {torn : Int} (hw : Wops w ws G) (hl : G.length ≤ 2000) (hk : Bls w (.slice ka nk ck) ks) (hnk : ks.length = nk) (hnk2 : nk ≤ 9223372036854775807) :
    Calls Try.prog 76 #[ws, .slice ka nk ck, .int .i64 torn] w fun e w' => ∃ v G', e = .returned v ∧ names8 G' = tornA torn (keptA (names8 G) ks) ∧ (∀ p ∈ G', ∃ q ∈ G, p.2.ownBlock = q.2.ownBlock) ∧ KeptEnd w v G' w' := by
  obtain ⟨ga, gc, hws⟩ := wops_slice hw.row
  subst hws
  obtain ⟨n, hn⟩ : ∃ n, n = G.length := ⟨_, rfl⟩
  have HW := Lib.hid hw
  rw [← hn] at HW ⊢
  have HN := Lib.hid hn
  have HK := Lib.hid hk
  have HNk := Lib.hid hnk
  have hn2 : n ≤ 2000 := by omega
  clear hw hl hk hn hnk
  go_enter Try.func76, Try.ntmps76
  go_wp2
  go_loopw [7, 13] (fun s7 s13 wr => KeptAt w G ks s7 s13 wr) (fun _ s13 _ => n - (intOf s13).toNat)
  case atStart => exact ⟨0, Nat.zero_le _, rfl, by simpa [keptG, cells8] using World.ownsRow_nil w 0 155 5, fun k hk => by simp [Value.ownBlock] at hk, Below.refl _ _⟩
  case round =>
    obtain ⟨i, hi, rfl, hrow, hnew, hbel⟩ := hrel
    have hin : i ≤ n := by have := HN.out; omega
    have HR := Lib.hid hrow
    have HNew := Lib.hid hnew
    have HB := Lib.hid hbel
    clear hi hrow hnew hbel
    by_cases hlt : i < n
    · obtain ⟨p, hp⟩ : ∃ p, G[i]? = some p := ⟨G[i]'(by have := HN.out; omega), List.getElem?_eq_getElem _⟩
      have hwr := HW.out
      rw [HN.out] at hwr
      have hwr2 : Wops wr (.slice ga G.length gc) G := hwr.below HB.out
      obtain ⟨g, cap, e, -, hload⟩ := hwr2.cells i p hp
      simp at e
      obtain ⟨rfl, rfl⟩ := e
      have hidx : ∀ W, (Instr.indexAt 121 (.slice (some ⟨g, 0, none⟩) n gc) (.int .i64 (i : Int))).run Try.prog W = .ok (.pointer (some ⟨g, i * 5, none⟩)) W := fun W => ops_index W g n gc i hlt
      obtain ⟨j, hj⟩ : ∃ j, j = i * 5 := ⟨_, rfl⟩
      rw [← hj] at hload hidx
      have hsn := keptG_snoc G ks i p hp
      have hrowp := hwr2.text p (List.mem_of_getElem? hp)
      have HSn := Lib.hid hsn
      have HOne := Lib.hid (row_one hrowp)
      have hlen := keptG_length (G.take i) ks
      have hlen2 : (keptG (G.take i) ks).length ≤ 2000 := Nat.le_trans hlen (by rw [List.length_take]; omega)
      have HLen := Lib.hid hlen2
      obtain ⟨⟨k, nn, q, a, b⟩, v⟩ := p
      obtain ⟨va, vc, hv⟩ := slice_of_row hrowp
      simp only at hv
      subst hv
      have hcs := HOne
      simp only [opC] at hload
      have l0 := hload 0 _ rfl
      have l1 := hload 1 _ rfl
      have l2 := hload 2 _ rfl
      have l3 := hload 3 _ rfl
      have l4 := hload 4 _ rfl
      simp only [Nat.add_zero] at l0
      obtain ⟨N, hN⟩ : ∃ N, nm nn = .string N := ⟨_, rfl⟩
      obtain ⟨M, hM⟩ : ∃ M, nm q = .string M := ⟨_, rfl⟩
      rw [hN] at l1
      rw [hM] at l2
      have HOp : Hid (opC ⟨k, nn, q, a, b⟩ (.slice va b.length vc) = #[.int .i64 (k : Int), .string N, .string M, .int .i64 (a : Int), .slice va b.length vc]) := by
        show opC _ _ = _
        simp only [opC, hN, hM]
      have i0 : (0 : Int) ≤ (i : Int) := Int.natCast_nonneg _
      have i1 : (i : Int) < (n : Int) := by omega
      clear hload hp hwr hwr2 hj hsn hrowp hlen hlen2 hN hM hcs
      by_cases hik : i < nk
      · have hik1 : (i : Int) < (nk : Int) := by omega
        have hik2 : decide ((i : Int) < (nk : Int)) = true := by simpa using hik1
        obtain ⟨bb, hbb⟩ : ∃ bb, ks[i]? = some bb := ⟨ks[i]'(by have := HNk.out; omega), List.getElem?_eq_getElem _⟩
        obtain ⟨a', c', e', hcell⟩ := HK.out
        simp at e'
        obtain ⟨rfl, -, -⟩ := e'
        obtain ⟨kad, rfl, hcb⟩ := hcell i bb hbb
        have hcb0 : wr.cell? (kad.add i) = some (.bool bb) := by rw [HB.out.cell (World.block_lt_of_cell? w _ hcb)]; exact hcb
        have hcb' : (wr.alloc (.cells #[.int .i64 (k : Int), .string N, .string M, .int .i64 (a : Int), .slice va b.length vc] 155)).cell? (kad.add i) = some (.bool bb) := by
          rw [((Below.refl wr.heap.size wr).alloc (Nat.le_refl _) _).cell (World.block_lt_of_cell? wr _ hcb0)]
          exact hcb0
        have hidxb : ∀ W, (Instr.indexAt 64 (.slice (some kad) nk ck) (.int .i64 (i : Int))).run Try.prog W = .ok (.pointer (some (kad.add i))) W := fun W => bools_index W kad nk ck i hik
        clear hcell hcb hcb0
        cases bb with
        | true =>
          have hsn2 : keptG (G.take (i + 1)) ks = keptG (G.take i) ks ++ [(⟨k, nn, q, a, b⟩, .slice va b.length vc)] := by rw [HSn.out, hbb]; simp
          have HSn2 := Lib.hid hsn2
          clear hsn2 hbb
          have hb2 : Below wr.heap.size wr ((wr.alloc (.cells #[.int .i64 (k : Int), .string N, .string M, .int .i64 (a : Int), .slice va b.length vc] 155)).alloc (.cells #[.int .i64 (k : Int), .string N, .string M, .int .i64 (a : Int), .slice va b.length vc] 155)) := ((Below.refl _ _).alloc (Nat.le_refl _) _).alloc (by simp) _
          have A1 := Lib.hid (add_op (ownRow_same HR.out fun k hk => hb2.block k (World.ownsRow.lt HR.out k hk).2) (by have := HLen.out; omega) (x := wr.heap.size + 1) (Blk.newAt (wr.alloc (.cells #[.int .i64 (k : Int), .string N, .string M, .int .i64 (a : Int), .slice va b.length vc] 155)) 155 #[.int .i64 (k : Int), .string N, .string M, .int .i64 (a : Int), .slice va b.length vc] _ _ (by simp) rfl) rfl (by rw [← HOp.out]; exact one_op _ _ HOne.out))
          have HB2 := Lib.hid (HB.out.trans (hb2.mono HB.out.size))
          clear hb2
          go_wp2_with (at_builtin; refine wpList_append_by rfl _ _ 121 rfl _ _ rfl rfl _ A1.out ?_; rintro v' w2 ⟨q1, -, q3, q4⟩; (have Q1 := Lib.hid q1); (have Q3 := Lib.hid q3); (have Q4 := Lib.hid q4); clear q1 q3 q4)
          go_wp2
          go_roundw
          case rel =>
            refine ⟨i + 1, by have := HN.out; omega, by go_num, ?_, near_new HB2.out.size HNew.out Q4.out, only_own HB2.out HNew.out Q3.out⟩
            rw [HSn2.out, cells8_snoc, List.length_append, HOp.out]
            exact Q1.out
          case measure => simp [intOf]; omega
        | false =>
          have hsn2 : keptG (G.take (i + 1)) ks = keptG (G.take i) ks := by rw [HSn.out, hbb]; simp
          have HSn2 := Lib.hid hsn2
          clear hsn2 hbb
          go_wp2
          go_roundw
          case rel => exact ⟨i + 1, by have := HN.out; omega, by go_num, by rw [HSn2.out]; exact ownRow_same HR.out fun k hk => Below.heap_alloc _ _ _ (World.ownsRow.lt HR.out k hk).2, HNew.out, HB.out.alloc HB.out.size _⟩
          case measure => simp [intOf]; omega
      · have hsn2 : keptG (G.take (i + 1)) ks = keptG (G.take i) ks := by
          rw [HSn.out, List.getElem?_eq_none (by have := HNk.out; omega)]
          simp
        have HSn2 := Lib.hid hsn2
        have hik2 : decide ((i : Int) < (nk : Int)) = false := by simp; omega
        clear hsn2
        go_wp2
        go_roundw
        case rel => exact ⟨i + 1, by have := HN.out; omega, by go_num, by rw [HSn2.out]; exact ownRow_same HR.out fun k hk => Below.heap_alloc _ _ _ (World.ownsRow.lt HR.out k hk).2, HNew.out, HB.out.alloc HB.out.size _⟩
        case measure => simp [intOf]; omega
    · obtain rfl : i = n := by omega
      obtain ⟨wo, rfl⟩ : ∃ wo : World, wo = wr := ⟨_, rfl⟩
      have hr := HR.out
      rw [List.take_of_length_le (by have := HN.out; omega)] at hr
      obtain ⟨G1, hG1⟩ : ∃ G1, G1 = keptG G ks := ⟨_, rfl⟩
      rw [← hG1] at hr
      have HG1 := Lib.hid hG1
      have hl1 : G1.length ≤ 2000 := by
        have := keptG_length G ks
        rw [← hG1] at this
        have := HN.out
        omega
      have HW0 : Hid (Wops w (.slice ga G.length gc) G) := by
        have h := HW.out
        rw [HN.out] at h
        exact h
      have htx : ∀ p ∈ G1, Row wo 0 p.2 p.1.b ∧ p ∈ G := fun p hp => by
        have hpG : p ∈ G := keptG_sub G ks p (by rw [← hG1]; exact hp)
        exact ⟨(HW0.out.text p hpG).below HB.out, hpG⟩
      have HTx := Lib.hid htx
      rcases List.eq_nil_or_concat G1 with rfl | ⟨G0, p, hcon⟩
      · have HEnd : Hid (∃ v G', u7 = v ∧ names8 G' = tornA torn (keptA (names8 G) ks) ∧ (∀ p ∈ G', ∃ q ∈ G, p.2.ownBlock = q.2.ownBlock) ∧ KeptEnd w v G' wo) :=
          ⟨u7, [], rfl, by rw [← keptG_names, ← HG1.out]; rfl, (fun p hp => by cases hp), ⟨hr, fun p hp => by cases hp⟩, HNew.out, HB.out⟩
        obtain ⟨la, lc, hu7⟩ := wops_slice hr
        subst hu7
        clear hr HR htx hG1 HTx HG1
        go_wp2
        go_ret
        obtain ⟨v, G', h1, h2⟩ := HEnd.out
        exact ⟨v, G', by rw [← h1]; rfl, h2⟩
      · rw [List.concat_eq_append] at hcon
        have hlen : G1.length = G0.length + 1 := by rw [hcon]; simp
        have hpG := htx p (by rw [hcon]; simp)
        have hr1 := hr
        obtain ⟨g, cap, rfl⟩ : ∃ g cap, u7 = .slice (some ⟨g, 0, none⟩) G1.length cap := by
          rcases hr.2 with ⟨_, h0⟩ | ⟨g, cap, cur, h, _⟩
          · omega
          · exact ⟨g, cap, h⟩
        obtain ⟨va, vc, hv, hvc⟩ := row_form hpG.1
        obtain ⟨⟨k, nn, q, a, b⟩, v⟩ := p
        simp only at hv hvc
        subst hv
        obtain ⟨Q, hQ⟩ : ∃ Q, Q = min (max torn 0).toNat b.length := ⟨_, rfl⟩
        rw [hlen, hcon] at hr
        rw [hlen] at hr1 ⊢
        obtain ⟨q1, q2, q3⟩ := torn_set (Q := Q) hr
        have hnewg : w.heap.size ≤ g := HNew.out g rfl
        have hbend : Below w.heap.size w (wo.setCell ⟨g, G0.length * 5 + 4, none⟩ (.slice va Q vc)) := ⟨HB.out.os, HB.out.tape, HB.out.output, by simpa [World.setCell] using HB.out.size, fun j hj => by rw [heap_setCell_other wo ⟨g, G0.length * 5 + 4, none⟩ j _ (by show j ≠ g; omega)]; exact HB.out.block j hj⟩
        have hgop : ∀ (u : Value) (t : List UInt8), Row wo 0 u t → Row (wo.setCell ⟨g, G0.length * 5 + 4, none⟩ (.slice va Q vc)) 0 u t := fun u t hu => hu.same fun j hj => heap_setCell_other wo ⟨g, G0.length * 5 + 4, none⟩ j _ fun e => by
          obtain ⟨cur, hc⟩ := hu.block hj
          obtain ⟨cur', hc'⟩ := ownRow_block hr (k := g) rfl
          rw [show j = g from e, hc'] at hc
          simp at hc
        have hQb : b.take (max torn 0).toNat = b.take Q := by
          rw [hQ]
          rcases Nat.le_total (max torn 0).toNat b.length with h | h
          · rw [Nat.min_eq_left h]
          · rw [Nat.min_eq_right h, List.take_of_length_le h, List.take_length]
        have HEnd : Hid (∃ G', names8 G' = tornA torn (keptA (names8 G) ks) ∧ (∀ p ∈ G', ∃ q ∈ G, p.2.ownBlock = q.2.ownBlock) ∧ KeptEnd w (.slice (some ⟨g, 0, none⟩) (G0.length + 1) cap) G' (wo.setCell ⟨g, G0.length * 5 + 4, none⟩ (.slice va Q vc))) := by
          refine ⟨G0 ++ [(⟨k, nn, q, a, b.take Q⟩, .slice va Q vc)], ?_, fun p hp => ?_, ⟨?_, fun p hp => ?_⟩, ?_, hbend⟩
          · rw [← keptG_names, ← HG1.out, hcon, names8, List.map_append, names8, List.map_append]
            show names8 G0 ++ [_] = tornA torn (names8 G0 ++ [_])
            rw [tornA_last]
            simp only
            rw [hQb]
          · rcases List.mem_append.1 hp with hp | hp
            · exact ⟨p, (htx p (by rw [hcon]; exact List.mem_append_left _ hp)).2, rfl⟩
            · obtain rfl := List.mem_singleton.1 hp
              exact ⟨_, hpG.2, own_len va Q b.length vc⟩
          · rw [List.length_append]
            exact q1
          · rcases List.mem_append.1 hp with hp | hp
            · exact hgop _ _ (htx p (by rw [hcon]; exact List.mem_append_left _ hp)).1
            · obtain rfl := List.mem_singleton.1 hp
              exact hgop _ _ (hpG.1.take Q (by omega))
          · intro j hj
            simp [Value.ownBlock] at hj
            omega
        have hidx : ∀ W, (Instr.indexAt 121 (.slice (some ⟨g, 0, none⟩) (G0.length + 1) cap) (.int .i64 ((G0.length : Int) + 1 - 1))).run Try.prog W = .ok (.pointer (some ⟨g, G0.length * 5, none⟩)) W := fun W => by
          rw [show (G0.length : Int) + 1 - 1 = ((G0.length : Nat) : Int) by omega]
          exact ops_index W g (G0.length + 1) cap G0.length (by omega)
        obtain ⟨L, hL⟩ : ∃ L, L = G0.length := ⟨_, rfl⟩
        obtain ⟨lb, hlb⟩ : ∃ lb, lb = b.length := ⟨_, rfl⟩
        obtain ⟨tt, htt⟩ : ∃ tt, tt = max torn 0 := ⟨_, rfl⟩
        rw [← hL] at hlen hidx HEnd q2 q3 ⊢
        rw [← hlb] at q2 hQ hvc
        rw [← htt] at hQ
        have hL2 : L ≤ 2000 := by omega
        have hmax : ∀ (ts : Array TypeId) (ty : TypeId) (W : World), (Builtin.max_ ts ty #[.int .i64 torn, .int .i64 0]).run Try.prog W = .ok (.int .i64 tt) W := fun ts ty W => by
          have e : (if (0 : Int) > torn then 0 else torn) = tt := by omega
          rw [run_max_int2, e]
        have hmin : ∀ (ts : Array TypeId) (ty : TypeId) (W : World), (Builtin.min_ ts ty #[.int .i64 tt, .int .i64 (lb : Int)]).run Try.prog W = .ok (.int .i64 (Q : Int)) W := fun ts ty W => by
          rw [run_min_int2]
          congr 2
          omega
        have hsl : ∀ W, (Instr.sliceAt 22 (.slice va lb vc) none (some (.int .i64 (Q : Int))) none).run Try.prog W = .ok (.slice va Q vc) W := slice_to va lb vc Q (by omega)
        have ha1 : ((L + 1 : Nat) : Int) = (L : Int) + 1 := by omega
        clear hr HR htx hG1 HTx HG1 hpG hr1 hcon q1 hbend hgop hQb hQ hvc hlb htt hL hnewg hlen
        go_wp2
        refine region_tail 16 (by kernel_rfl) (by kernel_rfl) (Sames wo) (sames_drew wo) ?_
        intro W hW
        have d2 : W.cell? ⟨g, L * 5 + 4, none⟩ = some (.slice va lb vc) := by rw [World.cell?_of_block (w := wo) (by rw [hW.heap])]; exact q2
        have d3 : W.frozen? ⟨g, L * 5 + 4, none⟩ = false := by rw [World.frozen?_of_block (w := wo) (by rw [hW.heap])]; exact q3
        have HW' := Lib.hid hW
        clear hW q2 q3
        simp only [List.take_succ_cons, List.take_zero, List.drop_succ_cons, List.drop_zero]
        repeat (first | go_big_quiet_skip | (go_big_quiet_want; go_big_quiet_op; go_big_quiet_on))
        refine wpQuiet_nil ?_
        go_wp2
        go_ret
        obtain ⟨G', h1, h2, h3⟩ := HEnd.out
        exact ⟨_, G', rfl, h1, h2, h3.sames (HW'.out.setCell _ _)⟩
end Go.Proofs.Ytboongdoggggoaa
