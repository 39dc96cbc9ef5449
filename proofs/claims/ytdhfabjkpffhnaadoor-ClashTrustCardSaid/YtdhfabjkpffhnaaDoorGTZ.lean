/- Joined: ClashKit, ClashRefRoot, ClashPair, ClashRefDown, ClashRefLists, ClashRefNewer. -/
import Derived.Test.YtdhfabjkpffhnaaDoorGTT
import Derived.Test.YtdhfabjkpffhnaaDoorClashToldT
import Derived.Test.YtdhfabjkpffhnaaDoorGTM
import Derived.Test.YtdhfabjkpffhnaaDoorGTA
import Derived.Test.YtdhfabjkpffhnaaDoorLeafConvT
import Derived.Test.YtdhfabjkpffhnaaDoorLeafAskT
import Derived.Test.YtdhfabjkpffhnaaDoorGTF
/- Lists of texts: cut, and what lies in them; the leaves and the root of texts: the reference's. -/
namespace Go.Proofs.YtdhfabjkpffhnaaDoor
set_option maxRecDepth 20000
open Go.RowKit ShaMath LeafMath PathMath ClashMath Reg

/-- Few texts, and short ones. -/
structure Shorts (T : List Bs) : Prop where
  few : T.length ≤ 80
  each : ∀ t ∈ T, t.length ≤ 4000
theorem Shorts.take {T : List Bs} (h : Shorts T) (k : Nat) : Shorts (T.take k) := ⟨by have := h.few; rw [List.length_take]; omega, fun t ht => h.each t (List.mem_of_mem_take ht)⟩
theorem Shorts.drop {T : List Bs} (h : Shorts T) (k : Nat) : Shorts (T.drop k) := ⟨by have := h.few; rw [List.length_drop]; omega, fun t ht => h.each t (List.mem_of_mem_drop ht)⟩
theorem Shorts.get {T : List Bs} (h : Shorts T) {i : Nat} {t : Bs} (hi : T[i]? = some t) : t.length ≤ 4000 := h.each t (List.mem_of_getElem? hi)

theorem Txs.form {w : World} {v : Value} {T : List Bs} (h : Txs w v T) : ∃ a c, v = .slice a T.length c ∧ T.length ≤ c := by
  obtain ⟨a, c, h1, h2, _⟩ := h
  exact ⟨a, c, h1, h2⟩
theorem Txs.at_ {w : World} {a : Option Addr} {n c : Nat} {T : List Bs} (h : Txs w (.slice a n c) T) {i : Nat} {t : Bs} (hi : T[i]? = some t) : ∃ ad A C, a = some ad ∧ w.cell? (ad.add i) = some (.slice A t.length C) ∧ Bys w (.slice A t.length C) t := by
  obtain ⟨a', c', e, _, h3⟩ := h
  cases e
  exact h3 i t hi
theorem Txs.below {w w' : World} {v : Value} {T : List Bs} (h : Txs w v T) {B : Nat} (hB : w.heap.size ≤ B) (hb : Below B w w') : Txs w' v T := by
  obtain ⟨a, cap, h1, h2, h3⟩ := h
  refine ⟨a, cap, h1, h2, fun i t hi => ?_⟩
  obtain ⟨ad, A, C, e, hc, hx⟩ := h3 i t hi
  exact ⟨ad, A, C, e, by rw [hb.cell (Nat.lt_of_lt_of_le (World.block_lt_of_cell? w _ hc) hB)]; exact hc, hx.below hB hb⟩
theorem Txs.drop {w : World} {a : Option Addr} {n c : Nat} {T : List Bs} (h : Txs w (.slice a n c) T) (k : Nat) (hk : k ≤ n) : Txs w (sliced a k n c 1) (T.drop k) := by
  obtain ⟨a', c', e, h2, h3⟩ := h
  cases e
  refine ⟨if c = k then a else a.map (·.add (k * 1)), c - k, ?_, by rw [List.length_drop]; omega, fun i t hi => ?_⟩
  · rw [List.length_drop]
    rfl
  · have hi2 : k + i < T.length := by
      have := (List.getElem?_eq_some_iff.1 hi).1
      rw [List.length_drop] at this
      omega
    rw [List.getElem?_drop] at hi
    obtain ⟨ad, A, C, rfl, hc, hx⟩ := h3 _ t hi
    refine ⟨ad.add k, A, C, ?_, by rw [add_add]; exact hc, hx⟩
    rw [if_neg (by omega)]
    simp

theorem slice_txs_toU (b : Option Addr) (n c hi : Nat) (h2 : hi ≤ c) (W : World) : (Instr.sliceAt 48 (.slice b n c) none (some (.int .u64 (hi : Int))) none).run Tryd.prog W = .ok (.slice b hi c) W := by
  have ht : Tryd.prog.underlying 48 = some (.slice (Tryd.prog.elem 48)) := by rw [elem_txs]; exact Tryd.underlying48
  rw [run_sliceAt_slice _ _ _ _ _ _ ht, run_slice_h _ _ _ _ _ ht .u64 (hi : Int) (by omega) (by omega), elem_txs, size_txt]
  cases b with
  | none => simp [Result.andThen, sliced]
  | some ad => simp [Result.andThen, sliced, Addr.add]
theorem load_txt (W : World) (p : Addr) (v : Value) (h : W.cell? p = some v) : (Instr.loadAt 22 (.pointer (some p))).run Tryd.prog W = .ok v W := by
  have hagg : (isAgg 22).run Tryd.prog W = .ok false W := by kernel_rfl
  simp [Instr.loadAt, Instr.sureAddr, loadVar, Sem.run_bind, hagg, h]

/-- append(hashes, one), the call's own. -/
theorem append_one_hash {w W : World} {v : Value} {hs : List Hs} {x : Hs} (hx : x.length = 32) (h : OHs W w.heap.size v hs) (hb : Below w.heap.size w W) (hl : hs.length ≤ 1000000000) :
    ∃ v' W', (Builtin.append_ #[30, 30] 30 #[v, .slice (some ⟨W.heap.size, 0, none⟩) 1 1]).run Tryd.prog (W.alloc (.cells (bs x) 24)) = .ok v' W' ∧ OHs W' w.heap.size v' (hs ++ [x]) ∧ Below w.heap.size w W' := by
  have hb1 : Below W.heap.size W (W.alloc (.cells (bs x) 24)) := (Below.refl _ _).alloc (Nat.le_refl _) _
  have hB1 := hb.trans (hb1.mono hb.size)
  obtain ⟨v', W', h1, h2, h3⟩ := append_hs hB1.size (h.below hb1) (hss_new W x hx) (by simp; omega)
  exact ⟨v', W', h1, h2, hB1.grown h3 hB1.size fun k hk => (World.ownsRow.lt (h.below hb1).2 k hk).1⟩

def LeavesAt (n : Int) (T : List Bs) (w : World) (s5 s6 : Value) (wr : World) : Prop :=
  ∃ i : Nat, i ≤ T.length ∧ s6 = .int .i64 (i : Int) ∧ OHs wr w.heap.size s5 ((T.take i).map (leafH n)) ∧ Below w.heap.size w wr

set_option maxHeartbeats 1000000 in
theorem refleaves_any (n : Int) (hn : I64 n) (T : List Bs) (v : Value) (w : World) (hv : Txs w v T) (hT : Shorts T) (hk : Consts w) :
    Calls Tryd.prog 41 #[.int .i64 n, v] w fun e w' => ∃ u, e = .returned u ∧ OHs w' w.heap.size u (T.map (leafH n)) ∧ Below w.heap.size w w' := by
  obtain ⟨a, c, rfl, hlc⟩ := hv.form
  obtain ⟨m, hm⟩ : ∃ m, m = T.length := ⟨_, rfl⟩
  rw [← hm] at hv hlc ⊢
  have hm80 : m ≤ 80 := by rw [hm]; exact hT.few
  have hstart : LeavesAt n T w (.slice none 0 0) (.int .i64 0) w := ⟨0, Nat.zero_le _, rfl, by simpa using OHs.none w w.heap.size, Below.refl _ _⟩
  have HS := Lib.hid hstart
  have HV := Lib.hid hv
  have HT := Lib.hid hT
  have HK := Lib.hid hk
  have HM := Lib.hid hm
  have HN := Lib.hid hn
  clear hv hT hk hm hstart hn
  go_enter Tryd.func41, Tryd.ntmps41
  go_wp2
  go_loopw [5, 6] (fun s5 s6 wr => LeavesAt n T w s5 s6 wr) (fun _ s6 _ => (match s6 with | .int _ z => 100 - z.toNat | _ => 0))
  case atStart => exact HS.out
  case round =>
    obtain ⟨i, hi, rfl, ho, hb⟩ := hrel
    rw [← HM.out] at hi
    clear HS
    have HO := Lib.hid ho
    have HB := Lib.hid hb
    clear ho hb
    by_cases him : i < m
    · obtain ⟨t, ht⟩ : ∃ t, T[i]? = some t := ⟨T[i]'(by rw [← HM.out]; exact him), List.getElem?_eq_getElem _⟩
      obtain ⟨ad, A, C, e, hc, hx⟩ := (HV.out.below (Nat.le_refl _) HB.out).at_ ht
      subst e
      obtain ⟨X, hX, hX32⟩ : ∃ X, X = leafH n t ∧ X.length = 32 := ⟨_, rfl, leafH_length _ _⟩
      have hl := HT.out.get ht
      have HL := Lib.hid (refleaf_any n t (.slice A t.length C) wr hx (by omega) HN.out (HK.out.below (Nat.le_refl _) HB.out))
      rw [← hX] at HL
      have HLd := Lib.hid (load_txt wr (ad.add i) _ hc)
      obtain ⟨cr, hcr, hcr1, _⟩ := hash_cells X hX32
      rw [← hcr] at HL
      have HCr1 := Lib.hid hcr1
      have HCr := Lib.hid hcr
      have HX32 := Lib.hid hX32
      have HNext := Lib.hid (show (T.take i).map (leafH n) ++ [X] = (T.take (i + 1)).map (leafH n) by rw [List.take_add_one, ht, hX]; simp)
      clear hX hX32 hcr hcr1 hc hx ht
      go_wp2_with (refine wpList_load_by rfl 22 (.tmp 17) rfl _ _ rfl HLd.out ?_)
      refine HL.out.mono ?_
      rintro e w2 ⟨rfl, hb2⟩
      have HB2 := Lib.hid (HB.out.trans (hb2.mono HB.out.size))
      have HO2 := Lib.hid (HO.out.below hb2)
      clear hb2 HL HO HB HLd
      have HA := Lib.hid (append_one_hash HX32.out HO2.out HB2.out (by rw [List.length_map, List.length_take]; omega))
      rw [← HCr.out, HNext.out] at HA
      go_wp2_with (first
        | (refine wpList_build_hash1 rfl (.tmp 19) rfl cr rfl HCr1.out ?_)
        | (at_builtin; refine wpList_append_by rfl (.tmp 13) (.tmp 20) 30 rfl _ _ rfl rfl _ HA.out ?_; rintro v9 W5 ⟨hr9, hb9⟩; (have HR9 := Lib.hid hr9); (have HB9 := Lib.hid hb9); clear hr9 hb9))
      go_roundw
      case rel => exact ⟨i + 1, by rw [← HM.out]; omega, by simp, HR9.out, HB9.out⟩
      case measure => simp; omega
    · have him2 : i = m := by omega
      subst him2
      have HE := Lib.hid (show (T.take i).map (leafH n) = T.map (leafH n) by rw [HM.out, List.take_length])
      rw [HE.out] at HO
      go_wp2
      go_ret
      exact ⟨_, rfl, HO.out, HB.out⟩
end Go.Proofs.YtdhfabjkpffhnaaDoor

/- Layer 17's reference: root, hashed. -/
namespace Go.Proofs.YtdhfabjkpffhnaaDoor
set_option maxRecDepth 20000
open Go.RowKit ShaMath LeafMath PathMath ClashMath Reg

end Go.Proofs.YtdhfabjkpffhnaaDoor

/- Two texts as a value; what answers it, in drawn regions. -/
namespace Go.Proofs.YtdhfabjkpffhnaaDoor
set_option maxRecDepth 20000
open Go.RowKit ShaMath LeafMath ClashMath Reg

theorem Bys.form {W : World} {v : Value} {l : Bs} (h : Bys W v l) : ∃ a c, v = .slice a l.length c := by
  rcases h with ⟨rfl, rfl⟩ | ⟨ad, cap, h, _⟩
  · exact ⟨none, 0, rfl⟩
  · exact ⟨_, _, h⟩

/-- Bytes stay where a block that holds none is written. -/
theorem Bys.farP {W : World} {v : Value} {l : Bs} {g : Nat} {t : TypeId} {zs cs : Array Value} (h : Bys W v l) (hb : Blk W g t zs) (hz : ∀ (j : Nat) (u : Value), zs[j]? = some u → ∀ b, u ≠ bv b) : Bys (W.setRow g cs) v l := by
  rcases h with h | ⟨ad, cap, hv, hc⟩
  · exact .inl h
  · refine .inr ⟨ad, cap, hv, fun i hi => ?_⟩
    have h1 := hc i hi
    by_cases e : (ad.add i).block = g
    · exfalso
      unfold World.cell? at h1
      rw [e, show W.heap[g]? = _ from hb] at h1
      simp only at h1
      split at h1
      · cases h1
      · exact hz _ _ h1 _ rfl
    · have hx : (W.setRow g cs).heap[(ad.add i).block]? = W.heap[(ad.add i).block]? := setRow_other W g _ cs e
      unfold World.cell? at h1 ⊢
      rw [hx]
      exact h1

abbrev prC (a : Option Addr) (n c : Nat) (a' : Option Addr) (n' c' : Nat) : Array Value := #[.slice a n c, .slice a' n' c']
theorem prC_far (a : Option Addr) (n c : Nat) (a' : Option Addr) (n' c' : Nat) (j : Nat) (u : Value) (h : (prC a n c a' n' c')[j]? = some u) (b : UInt8) : u ≠ bv b := by
  match j, h with
  | 0, h => simp at h; subst h; simp [bv]
  | 1, h => simp at h; subst h; simp [bv]
theorem size_pair (a : Option Addr) (n c : Nat) (a' : Option Addr) (n' c' : Nat) : (Tryd.prog.info? 51).map (·.size) = some (prC a n c a' n' c').size := by
  show (Tryd.prog.info? 51).map (·.size) = some 2
  kernel_rfl
theorem pair_one (a : Option Addr) (n c : Nat) (a' : Option Addr) (n' c' : Nat) : (prC a n c a' n' c').all (·.oneCell') = true := by simp [Value.oneCell']

/-- Two texts, wherever they lie. -/
def PairB (W : World) (u : Value) (p : Bs × Bs) : Prop := ∃ a c a' c', u = .agg (prC a p.1.length c a' p.2.length c') ∧ Bys W (.slice a p.1.length c) p.1 ∧ Bys W (.slice a' p.2.length c') p.2

theorem PairB.below {W W' : World} {u : Value} {p : Bs × Bs} (h : PairB W u p) (hb : Below W.heap.size W W') : PairB W' u p := by
  obtain ⟨a, c, a', c', e, h1, h2⟩ := h
  exact ⟨a, c, a', c', e, h1.below (Nat.le_refl _) hb, h2.below (Nat.le_refl _) hb⟩
theorem PairB.none (W : World) : PairB W (.agg (prC .none 0 0 .none 0 0)) ([], []) := ⟨_, _, _, _, rfl, .inl ⟨rfl, rfl⟩, .inl ⟨rfl, rfl⟩⟩
theorem PairB.of {W : World} {x y : Value} {l r : Bs} (h1 : Bys W x l) (h2 : Bys W y r) : PairB W (.agg #[x, y]) (l, r) := by
  obtain ⟨a, c, rfl⟩ := h1.form
  obtain ⟨a', c', rfl⟩ := h2.form
  exact ⟨a, c, a', c', rfl, h1, h2⟩
theorem PairB.far {W : World} {u : Value} {p : Bs × Bs} {g : Nat} {a a' : Option Addr} {n c n' c' : Nat} {cs : Array Value} (h : PairB W u p) (hb : Blk W g 51 (prC a n c a' n' c')) : PairB (W.setRow g cs) u p := by
  obtain ⟨b, d, b', d', e, h1, h2⟩ := h
  exact ⟨b, d, b', d', e, h1.farP hb (prC_far _ _ _ _ _ _), h2.farP hb (prC_far _ _ _ _ _ _)⟩

theorem ret_pair {fn : Func} {p u : Tmp} (h : fn.results = #[.cell p 51, .tmp u]) (tmps : Array Value) (W : World) (g : Nat) (a : Option Addr) (n c : Nat) (a' : Option Addr) (n' c' : Nat) (x : Value) (hp : tmps.getD p undef = .pointer (some ⟨g, 0, none⟩)) (hc : tmps.getD u undef = x) (hb : Blk W g 51 (prC a n c a' n' c')) :
    (results fn tmps).run Tryd.prog W = .ok (.tuple #[.agg (prC a n c a' n' c'), x]) W := by
  have hl := run_loadVar_row (P := Tryd.prog) W g 51 51 (prC a n c a' n' c') (0, 0) _ hb Tryd.underlying51 rfl (size_pair _ _ _ _ _ _)
  rw [results_cell_tmp h, hp, hc]
  simp [asAddr, Result.andThen, hl]

/-- A result's block, nothing in it yet. -/
def PrW (w : World) (W : World) : Prop := Blk W w.heap.size 51 (prC none 0 0 none 0 0) ∧ Below w.heap.size w W
theorem PrW.new (w : World) : PrW w (w.alloc (.cells (prC none 0 0 none 0 0) 51)) := ⟨Blk.new w _ _, (Below.refl _ _).alloc (Nat.le_refl _) _⟩
theorem PrW.keep {w W W' : World} (H : PrW w W) (hb : Below W.heap.size W W') : PrW w W' := ⟨H.1.keep hb, H.2.trans (hb.mono H.2.size)⟩
theorem PrW.lt {w W : World} (H : PrW w W) : w.heap.size + 1 ≤ W.heap.size := H.1.lt
theorem PrW.row {w W : World} (H : PrW w W) (g : Nat) (cs : Array Value) (hg : w.heap.size + 1 ≤ g) : PrW w (W.setRow g cs) := ⟨H.1.rowOther _ (by omega), below_setRow H.2 _ _ (by omega)⟩

def tupPF (b : Value) (p : Bs × Bs) : Fact := .sat (fun v W => ∃ u, v = .tuple #[u, b] ∧ PairB W u p) fun _ _ _ ⟨u, h1, h2⟩ hb => ⟨u, h1, h2.below hb⟩
def prF (p : Bs × Bs) : Fact := .sat (fun u W => PairB W u p) fun _ _ _ h hb => h.below hb
section
variable {ops : Array Oper} {tab : List (List Nat)} {fin : List Tmp} {G : World → Prop} {f : Tmp → Fact} {i : Nat} {o : Oper}
theorem ask_ext0P (hG : ∀ W W', G W → Below W.heap.size W W' → G W') (hg : guardOk ops f o) (s : Operand) (b : Value) (p : Bs × Bs) (ho : o.op = .extract s 0) (hs : opFact f s = tupPF b p) (hd : ∀ k, o.dst = some k → f k = prF p) : Asked Tryd.prog ops tab fin G f i o := by
  refine ask_grow hG hg fun x W hW hk => ?_
  have e1 := told_op hk s (by rw [ho]; simp [Op.operands])
  rw [hs] at e1
  obtain ⟨u, e, hv⟩ : ∃ u, evalBy x s = .tuple #[u, b] ∧ PairB W u p := e1
  refine gives_value (v := u) (w' := W) ?_ ⟨Below.refl _ _, fun k hk => by rw [hd k hk]; exact hv⟩
  simp [execOp, ho, e, Instr.extract]
theorem ask_ext1P (hg : guardOk ops f o) (s : Operand) (b : Value) (p : Bs × Bs) (ho : o.op = .extract s 1) (hs : opFact f s = tupPF b p) (hd : ∀ k, o.dst = some k → f k = .is b) : Asked Tryd.prog ops tab fin G f i o := by
  refine ask_val hg b hd fun x W hW hk => ?_
  have e1 := told_op hk s (by rw [ho]; simp [Op.operands])
  rw [hs] at e1
  obtain ⟨u, e, hv⟩ : ∃ u, evalBy x s = .tuple #[u, b] ∧ PairB W u p := e1
  simp [execOp, ho, e, Instr.extract]
theorem ask_conv_bys (hg : guardOk ops f o) (s : Operand) (l : Bs) (X : ByteArray) (hX : X = ⟨l.toArray⟩) (ho : o.op = .convert 22 9 s) (hs : ∀ x W, G W → Told ops f o x W → Bys W (evalBy x s) l) (hd : ∀ k, o.dst = some k → f k = .is (.string X)) : Asked Tryd.prog ops tab fin G f i o := by
  refine ask_val hg _ hd fun x W hW hk => ?_
  have e1 := conv_bys (hs x W hW hk)
  rw [← hX] at e1
  simp [execOp, ho, e1, Result.andThen]
end

/-- Texts as strings. -/
theorem strs_of (a b : Bs) : ∃ X Y : ByteArray, X = ⟨a.toArray⟩ ∧ Y = ⟨b.toArray⟩ ∧ (X.toList == Y.toList) = decide (a = b) := by
  refine ⟨_, _, rfl, rfl, ?_⟩
  rw [ByteArray.toList_mk, ByteArray.toList_mk]
  by_cases h : a = b
  · rw [decide_eq_true h, h]; exact (beq_self_eq_true b)
  · rw [decide_eq_false h]; exact (beq_false_of_ne h)
end Go.Proofs.YtdhfabjkpffhnaaDoor

/- Layer 17's reference: down. -/
namespace Go.Proofs.YtdhfabjkpffhnaaDoor
set_option maxRecDepth 20000
open Go.RowKit ShaMath LeafMath ClashMath Reg

/-- A result's block, whatever is in it. -/
def PrV (w : World) (W : World) : Prop := (∃ a n c a' n' c', Blk W w.heap.size 51 (prC a n c a' n' c')) ∧ Below w.heap.size w W
theorem PrV.keep {w W W' : World} (H : PrV w W) (hb : Below W.heap.size W W') : PrV w W' := by
  obtain ⟨⟨a, n, c, a', n', c', h⟩, h2⟩ := H
  exact ⟨⟨a, n, c, a', n', c', h.keep hb⟩, h2.trans (hb.mono h2.size)⟩
theorem PrW.any {w W : World} (H : PrW w W) : PrV w W := ⟨⟨_, _, _, _, _, _, H.1⟩, H.2⟩

end Go.Proofs.YtdhfabjkpffhnaaDoor

/- Layer 17's reference: Lists. -/
namespace Go.Proofs.YtdhfabjkpffhnaaDoor
set_option maxRecDepth 20000
open Go.RowKit ShaMath LeafMath ClashMath Reg

end Go.Proofs.YtdhfabjkpffhnaaDoor

/- Layer 17's reference: newer. -/
namespace Go.Proofs.YtdhfabjkpffhnaaDoor
set_option maxRecDepth 20000
open Go.RowKit ShaMath LeafMath PathMath GrowthMath ClashMath Reg

end Go.Proofs.YtdhfabjkpffhnaaDoor

