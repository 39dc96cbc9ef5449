/- Joined: ClashKit, ClashRefRoot, ClashPair, ClashRefDown, ClashRefLists, ClashRefNewer. -/
import Derived.Test.YtdhfabjkpffhnaaDoorGCT
import Derived.Test.YtdhfabjkpffhnaaDoorClashToldC
import Derived.Test.YtdhfabjkpffhnaaDoorGCM
import Derived.Test.YtdhfabjkpffhnaaDoorGCA
import Derived.Test.YtdhfabjkpffhnaaDoorLeafConvC
import Derived.Test.YtdhfabjkpffhnaaDoorLeafAskC
import Derived.Test.YtdhfabjkpffhnaaDoorGCF
/- Lists of texts: cut, and what lies in them; the leaves and the root of texts: the reference's. -/
namespace Go.Proofs.YtdhfabjkpffhnaaDoor
set_option maxRecDepth 20000
open Go.RowKit ShaMath LeafMath PathMath ClashMath Reg

/-- Few texts, and short ones. -/
structure Shorts (T : List Bs) : Prop where
  few : T.length ≤ 80
  each : ∀ t ∈ T, t.length ≤ 4000
theorem Shorts.take {T : List Bs} (h : Shorts T) (k : Nat) : Shorts (T.take k) := ⟨by have := h.few; rw [List.length_take]; omega, fun t ht => h.each t (List.mem_of_mem_take ht)⟩
theorem Shorts.drop {T : List Bs} (h : Shorts T) (k : Nat) : Shorts (T.drop k) := ⟨by have := h.few; rw [List.length_drop]; omega, fun t ht => h.each t (List.mem_of_mem_drop ht)⟩
theorem Shorts.get {T : List Bs} (h : Shorts T) {i : Nat} {t : Bs} (hi : T[i]? = some t) : t.length ≤ 4000 := h.each t (List.mem_of_getElem? hi)

theorem Txs.form {w : World} {v : Value} {T : List Bs} (h : Txs w v T) : ∃ a c, v = .slice a T.length c ∧ T.length ≤ c := by
  obtain ⟨a, c, h1, h2, _⟩ := h
  exact ⟨a, c, h1, h2⟩
theorem Txs.at_ {w : World} {a : Option Addr} {n c : Nat} {T : List Bs} (h : Txs w (.slice a n c) T) {i : Nat} {t : Bs} (hi : T[i]? = some t) : ∃ ad A C, a = some ad ∧ w.cell? (ad.add i) = some (.slice A t.length C) ∧ Bys w (.slice A t.length C) t := by
  obtain ⟨a', c', e, _, h3⟩ := h
  cases e
  exact h3 i t hi
theorem Txs.below {w w' : World} {v : Value} {T : List Bs} (h : Txs w v T) {B : Nat} (hB : w.heap.size ≤ B) (hb : Below B w w') : Txs w' v T := by
  obtain ⟨a, cap, h1, h2, h3⟩ := h
  refine ⟨a, cap, h1, h2, fun i t hi => ?_⟩
  obtain ⟨ad, A, C, e, hc, hx⟩ := h3 i t hi
  exact ⟨ad, A, C, e, by rw [hb.cell (Nat.lt_of_lt_of_le (World.block_lt_of_cell? w _ hc) hB)]; exact hc, hx.below hB hb⟩
theorem Txs.drop {w : World} {a : Option Addr} {n c : Nat} {T : List Bs} (h : Txs w (.slice a n c) T) (k : Nat) (hk : k ≤ n) : Txs w (sliced a k n c 1) (T.drop k) := by
  obtain ⟨a', c', e, h2, h3⟩ := h
  cases e
  refine ⟨if c = k then a else a.map (·.add (k * 1)), c - k, ?_, by rw [List.length_drop]; omega, fun i t hi => ?_⟩
  · rw [List.length_drop]
    rfl
  · have hi2 : k + i < T.length := by
      have := (List.getElem?_eq_some_iff.1 hi).1
      rw [List.length_drop] at this
      omega
    rw [List.getElem?_drop] at hi
    obtain ⟨ad, A, C, rfl, hc, hx⟩ := h3 _ t hi
    refine ⟨ad.add k, A, C, ?_, by rw [add_add]; exact hc, hx⟩
    rw [if_neg (by omega)]
    simp

theorem slice_txs_from (b : Option Addr) (n c lo : Nat) (h2 : lo ≤ n) (W : World) : (Instr.sliceAt 48 (.slice b n c) (some (.int .i64 (lo : Int))) none none).run Tryd.prog W = .ok (sliced b lo n c 1) W := by
  have ht : Tryd.prog.underlying 48 = some (.slice (Tryd.prog.elem 48)) := by rw [elem_txs]; exact Tryd.underlying48
  rw [run_sliceAt_slice _ _ _ _ _ _ ht, run_slice_l _ _ _ _ _ ht .i64 (lo : Int) (by omega) (by omega), elem_txs, size_txt]
  simp [Result.andThen]
theorem slice_txs_toU (b : Option Addr) (n c hi : Nat) (h2 : hi ≤ c) (W : World) : (Instr.sliceAt 48 (.slice b n c) none (some (.int .u64 (hi : Int))) none).run Tryd.prog W = .ok (.slice b hi c) W := by
  have ht : Tryd.prog.underlying 48 = some (.slice (Tryd.prog.elem 48)) := by rw [elem_txs]; exact Tryd.underlying48
  rw [run_sliceAt_slice _ _ _ _ _ _ ht, run_slice_h _ _ _ _ _ ht .u64 (hi : Int) (by omega) (by omega), elem_txs, size_txt]
  cases b with
  | none => simp [Result.andThen, sliced]
  | some ad => simp [Result.andThen, sliced, Addr.add]
theorem load_txt (W : World) (p : Addr) (v : Value) (h : W.cell? p = some v) : (Instr.loadAt 22 (.pointer (some p))).run Tryd.prog W = .ok v W := by
  have hagg : (isAgg 22).run Tryd.prog W = .ok false W := by kernel_rfl
  simp [Instr.loadAt, Instr.sureAddr, loadVar, Sem.run_bind, hagg, h]

/-- append(hashes, one), the call's own. -/
theorem append_one_hash {w W : World} {v : Value} {hs : List Hs} {x : Hs} (hx : x.length = 32) (h : OHs W w.heap.size v hs) (hb : Below w.heap.size w W) (hl : hs.length ≤ 1000000000) :
    ∃ v' W', (Builtin.append_ #[30, 30] 30 #[v, .slice (some ⟨W.heap.size, 0, none⟩) 1 1]).run Tryd.prog (W.alloc (.cells (bs x) 24)) = .ok v' W' ∧ OHs W' w.heap.size v' (hs ++ [x]) ∧ Below w.heap.size w W' := by
  have hb1 : Below W.heap.size W (W.alloc (.cells (bs x) 24)) := (Below.refl _ _).alloc (Nat.le_refl _) _
  have hB1 := hb.trans (hb1.mono hb.size)
  obtain ⟨v', W', h1, h2, h3⟩ := append_hs hB1.size (h.below hb1) (hss_new W x hx) (by simp; omega)
  exact ⟨v', W', h1, h2, hB1.grown h3 hB1.size fun k hk => (World.ownsRow.lt (h.below hb1).2 k hk).1⟩

def LeavesAt (n : Int) (T : List Bs) (w : World) (s5 s6 : Value) (wr : World) : Prop :=
  ∃ i : Nat, i ≤ T.length ∧ s6 = .int .i64 (i : Int) ∧ OHs wr w.heap.size s5 ((T.take i).map (leafH n)) ∧ Below w.heap.size w wr

set_option maxHeartbeats 1000000 in
theorem refleaves_any (n : Int) (hn : I64 n) (T : List Bs) (v : Value) (w : World) (hv : Txs w v T) (hT : Shorts T) (hk : Consts w) :
    Calls Tryd.prog 41 #[.int .i64 n, v] w fun e w' => ∃ u, e = .returned u ∧ OHs w' w.heap.size u (T.map (leafH n)) ∧ Below w.heap.size w w' := by
  obtain ⟨a, c, rfl, hlc⟩ := hv.form
  obtain ⟨m, hm⟩ : ∃ m, m = T.length := ⟨_, rfl⟩
  rw [← hm] at hv hlc ⊢
  have hm80 : m ≤ 80 := by rw [hm]; exact hT.few
  have hstart : LeavesAt n T w (.slice none 0 0) (.int .i64 0) w := ⟨0, Nat.zero_le _, rfl, by simpa using OHs.none w w.heap.size, Below.refl _ _⟩
  have HS := Lib.hid hstart
  have HV := Lib.hid hv
  have HT := Lib.hid hT
  have HK := Lib.hid hk
  have HM := Lib.hid hm
  have HN := Lib.hid hn
  clear hv hT hk hm hstart hn
  go_enter Tryd.func41, Tryd.ntmps41
  go_wp2
  go_loopw [5, 6] (fun s5 s6 wr => LeavesAt n T w s5 s6 wr) (fun _ s6 _ => (match s6 with | .int _ z => 100 - z.toNat | _ => 0))
  case atStart => exact HS.out
  case round =>
    obtain ⟨i, hi, rfl, ho, hb⟩ := hrel
    rw [← HM.out] at hi
    clear HS
    have HO := Lib.hid ho
    have HB := Lib.hid hb
    clear ho hb
    by_cases him : i < m
    · obtain ⟨t, ht⟩ : ∃ t, T[i]? = some t := ⟨T[i]'(by rw [← HM.out]; exact him), List.getElem?_eq_getElem _⟩
      obtain ⟨ad, A, C, e, hc, hx⟩ := (HV.out.below (Nat.le_refl _) HB.out).at_ ht
      subst e
      obtain ⟨X, hX, hX32⟩ : ∃ X, X = leafH n t ∧ X.length = 32 := ⟨_, rfl, leafH_length _ _⟩
      have hl := HT.out.get ht
      have HL := Lib.hid (refleaf_any n t (.slice A t.length C) wr hx (by omega) HN.out (HK.out.below (Nat.le_refl _) HB.out))
      rw [← hX] at HL
      have HLd := Lib.hid (load_txt wr (ad.add i) _ hc)
      obtain ⟨cr, hcr, hcr1, _⟩ := hash_cells X hX32
      rw [← hcr] at HL
      have HCr1 := Lib.hid hcr1
      have HCr := Lib.hid hcr
      have HX32 := Lib.hid hX32
      have HNext := Lib.hid (show (T.take i).map (leafH n) ++ [X] = (T.take (i + 1)).map (leafH n) by rw [List.take_add_one, ht, hX]; simp)
      clear hX hX32 hcr hcr1 hc hx ht
      go_wp2_with (refine wpList_load_by rfl 22 (.tmp 17) rfl _ _ rfl HLd.out ?_)
      refine HL.out.mono ?_
      rintro e w2 ⟨rfl, hb2⟩
      have HB2 := Lib.hid (HB.out.trans (hb2.mono HB.out.size))
      have HO2 := Lib.hid (HO.out.below hb2)
      clear hb2 HL HO HB HLd
      have HA := Lib.hid (append_one_hash HX32.out HO2.out HB2.out (by rw [List.length_map, List.length_take]; omega))
      rw [← HCr.out, HNext.out] at HA
      go_wp2_with (first
        | (refine wpList_build_hash1 rfl (.tmp 19) rfl cr rfl HCr1.out ?_)
        | (at_builtin; refine wpList_append_by rfl (.tmp 13) (.tmp 20) 30 rfl _ _ rfl rfl _ HA.out ?_; rintro v9 W5 ⟨hr9, hb9⟩; (have HR9 := Lib.hid hr9); (have HB9 := Lib.hid hb9); clear hr9 hb9))
      go_roundw
      case rel => exact ⟨i + 1, by rw [← HM.out]; omega, by simp, HR9.out, HB9.out⟩
      case measure => simp; omega
    · have him2 : i = m := by omega
      subst him2
      have HE := Lib.hid (show (T.take i).map (leafH n) = T.map (leafH n) by rw [HM.out, List.take_length])
      rw [HE.out] at HO
      go_wp2
      go_ret
      exact ⟨_, rfl, HO.out, HB.out⟩
end Go.Proofs.YtdhfabjkpffhnaaDoor

/- Layer 17's reference: root, hashed. -/
namespace Go.Proofs.YtdhfabjkpffhnaaDoor
set_option maxRecDepth 20000
open Go.RowKit ShaMath LeafMath PathMath ClashMath Reg

set_option maxRecDepth 100000 in
theorem refrootT_any (n : Int) (hn : I64 n) (T : List Bs) (v : Value) (w : World) (hv : Txs w v T) (hT : Shorts T) (hk : Consts w) :
    Calls Tryd.prog 61 #[.int .i64 n, v] w fun e w' => e = .returned (.agg (bs (rootT n T))) ∧ Below w.heap.size w w' := by
  have hb0 : ∀ o, Below w.heap.size w (w.alloc o) := fun o => (Below.refl _ _).alloc (Nat.le_refl _) o
  obtain ⟨cs, hcs, hcl, hone⟩ := hash_cells (rootT n T) (rootT_length _ _)
  have HL := Lib.hid (fun o => refleaves_any n hn T v (w.alloc o) (hv.below (Nat.le_refl _) (hb0 o)) hT (hk.below (Nat.le_refl _) (hb0 o)))
  have HR := Lib.hid (fun (W : World) (u : Value) (hW : Below w.heap.size w W) (hu : Hss W u (T.map (leafH n))) => refroot_any n hn T.length (T.map (leafH n)) u W (by rw [List.length_map]) hu (by have := hT.few; omega) (hk.below (Nat.le_refl _) hW))
  rw [show rootH n (T.map (leafH n)) = rootT n T from rfl, ← hcs] at HR
  rw [← hcs]
  have HSz := Lib.hid (size_hash hcl)
  have HOne := Lib.hid hone
  have HCl := Lib.hid hcl
  have HB0 := Lib.hid hb0
  obtain ⟨a, c, rfl, _⟩ := hv.form
  clear hv hT hk hn hcs hcl hone hb0
  go_enter Tryd.func61, Tryd.ntmps61
  go_wp2_with fail
  refine (HL.out _).mono ?_
  rintro e w1 ⟨u, rfl, ho, hb1⟩
  have HB1 := Lib.hid hb1
  have HO := Lib.hid ho.hss
  clear hb1 ho HL
  go_wp2_with fail
  refine (HR.out _ _ ((HB0.out _).trans (HB1.out.mono (by simp))) HO.out).mono ?_
  rintro e w2 ⟨rfl, hb2⟩
  have HB2 := Lib.hid (HB1.out.trans (hb2.mono HB1.out.size))
  clear hb2 HR HB1 HO
  go_wp2_with (refine wpList_store_row rfl 24 (.tmp 4) (.tmp 9) rfl w.heap.size cs rfl rfl 24 _ ((Blk.new w _ _).keep HB2.out) HSz.out (by rw [HCl.out]; rfl) HOne.out ?_)
  exact bodyPost_ret (v := .agg cs) (results_cell_row rfl _ _ w.heap.size 24 cs (0, 0) _ rfl (Blk.row ((Blk.new w _ _).keep HB2.out) cs) Tryd.underlying24 rfl HSz.out) rfl ⟨rfl, below_setRow ((HB0.out _).trans (HB2.out.mono (by simp))) _ _ (Nat.le_refl _)⟩

set_option maxHeartbeats 1000000 in
set_option maxRecDepth 100000 in
theorem refhashed_any (n : Int) (hn : I64 n) (T : List Bs) (v : Value) (w : World) (hv : Txs w v T) (hT : Shorts T) (h1 : 1 ≤ T.length) (hk : Consts w) :
    Calls Tryd.prog 68 #[.int .i64 n, v] w fun e w' => ∃ u, e = .returned u ∧ Row w' w.heap.size u (hashedT n T) ∧ Below w.heap.size w w' := by
  obtain ⟨a, c, rfl, hlc⟩ := hv.form
  by_cases h2 : 2 ≤ T.length
  · rw [hashedT_more n T h2]
    have hk1 := splitN_lt h2
    have hk0 := splitN_pos T.length
    obtain ⟨k, hkk⟩ : ∃ k, k = splitN T.length := ⟨_, rfl⟩
    rw [← hkk] at hk1 hk0 ⊢
    obtain ⟨m, hm⟩ : ∃ m, m = T.length := ⟨_, rfl⟩
    have hm80 : m ≤ 80 := by rw [hm]; exact hT.few
    have HSplit := Lib.hid (fun W => refsplit_any m W (by omega) (by omega))
    rw [hm, ← hkk, ← hm] at HSplit
    rw [← hm] at hv hlc hk1 ⊢
    obtain ⟨vb, hvb⟩ : ∃ vb, vb = sliced a k m c 1 := ⟨_, rfl⟩
    have h1s := hv.take k (by omega)
    have h2s := hv.drop k (by omega)
    rw [← hvb] at h2s
    have HSa := Lib.hid (fun W => slice_txs_to a m c k (by omega) W)
    have HSb := Lib.hid (show ∀ W, (Instr.sliceAt 48 (.slice a m c) (some (.int .i64 (k : Int))) none none).run Tryd.prog W = .ok vb W from fun W => by rw [hvb]; exact slice_txs_from a m c k (by omega) W)
    obtain ⟨L, hL, hL32⟩ : ∃ L, L = rootT n (T.take k) ∧ L.length = 32 := ⟨_, rfl, rootT_length _ _⟩
    obtain ⟨R, hR, hR32⟩ : ∃ R, R = rootT n (T.drop k) ∧ R.length = 32 := ⟨_, rfl, rootT_length _ _⟩
    have HA := Lib.hid (fun (W : World) (hW : Below w.heap.size w W) => refrootT_any n hn (T.take k) (.slice a k c) W (h1s.below (Nat.le_refl _) hW) (hT.take k) (hk.below (Nat.le_refl _) hW))
    have HBb := Lib.hid (fun (W : World) (hW : Below w.heap.size w W) => refrootT_any n hn (T.drop k) vb W (h2s.below (Nat.le_refl _) hW) (hT.drop k) (hk.below (Nat.le_refl _) hW))
    have HNode := Lib.hid (fun (W : World) => refnodetext_any L R W hL32 hR32)
    rw [← hL] at HA ⊢
    rw [← hR] at HBb ⊢
    rw [show (1 :: (L ++ R) : List UInt8) = nodeT L R from rfl] at HNode
    have hne : ¬ (m : Int) = 1 := by omega
    clear hv hT hk hn hL hR hL32 hR32 h1s h2s hvb hkk hm h1 h2
    go_enter Tryd.func68, Tryd.ntmps68
    go_wp2_with fail
    refine (HSplit.out _).mono ?_
    rintro e w2 ⟨rfl, rfl⟩
    obtain ⟨w, rfl⟩ : ∃ x : World, x = w2 := ⟨_, rfl⟩
    go_upto_region 4 with fail
    have hG : ∀ W W' : World, Below w.heap.size w W → Below W.heap.size W W' → Below w.heap.size w W' := fun W W' h h' => h.trans (h'.mono h.size)
    refine region_by [(16, .is (.int .i64 n)), (17, .is (.slice a m c)), (18, .is (.int .i64 (k : Int))), (19, .is (.slice a k c)), (20, .is (.agg (bs L))), (21, .is (.int .i64 n)), (22, .is (.slice a m c)), (23, .is (.int .i64 (k : Int))), (24, .is vb), (25, .is (.agg (bs R))), (26, .row w.heap.size (nodeT L R)), (4, .row w.heap.size (nodeT L R))] [4]
      (fun W => Below w.heap.size w W) (by kernel_rfl) (by kernel_rfl) (by kernel_rfl) (by kernel_rfl) (by kernel_rfl) ((Below.refl _ _).drew) ?_ ?_
    · refine ⟨?a0, ?a1, ?a2, ?a3, ?a4, ?a5, ?a6, ?a7, ?a8, ?a9, ?a10, ?a11, trivial⟩
      case a0 => exact ask_copy (guard_none rfl) (.tmp 0) (.inl rfl) (by intro k hk; cases hk; rfl)
      case a1 => exact ask_copy (guard_none rfl) (.tmp 1) (.inl rfl) (by intro k hk; cases hk; rfl)
      case a2 => exact ask_copy (guard_none rfl) (.tmp 5) (.inl rfl) (by intro k hk; cases hk; rfl)
      case a3 => exact ask_slice (guard_none rfl) _ (.tmp 17) none (some (.tmp 18)) none (.slice a m c) (.slice a k c) none (some (.int .i64 (k : Int))) none rfl rfl rfl rfl rfl (by intro k hk; cases hk; rfl) HSa.out
      case a4 => exact ask_call hG (guard_none rfl) _ _ _ #[.int .i64 n, .slice a k c] (.is (.agg (bs L))) rfl (by kernel_rfl) rfl rfl (by intro k hk; cases hk; rfl) (fun W hW => (HA.out W hW).mono fun e w' h => ⟨_, h.1, rfl, h.2⟩)
      case a5 => exact ask_copy (guard_none rfl) (.tmp 0) (.inl rfl) (by intro k hk; cases hk; rfl)
      case a6 => exact ask_copy (guard_none rfl) (.tmp 1) (.inl rfl) (by intro k hk; cases hk; rfl)
      case a7 => exact ask_copy (guard_none rfl) (.tmp 5) (.inl rfl) (by intro k hk; cases hk; rfl)
      case a8 => exact ask_slice (guard_none rfl) _ (.tmp 22) (some (.tmp 23)) none none (.slice a m c) vb (some (.int .i64 (k : Int))) none none rfl rfl rfl rfl rfl (by intro k hk; cases hk; rfl) HSb.out
      case a9 => exact ask_call hG (guard_none rfl) _ _ _ #[.int .i64 n, vb] (.is (.agg (bs R))) rfl (by kernel_rfl) rfl rfl (by intro k hk; cases hk; rfl) (fun W hW => (HBb.out W hW).mono fun e w' h => ⟨_, h.1, rfl, h.2⟩)
      case a10 => exact ask_call hG (guard_none rfl) _ _ _ #[.agg (bs L), .agg (bs R)] (.row w.heap.size (nodeT L R)) rfl (by kernel_rfl) rfl rfl (by intro k hk; cases hk; rfl) (fun W hW => (HNode.out W).mono fun e w' h => by obtain ⟨u, h1, h2, h3⟩ := h; exact ⟨u, h1, h2.lower hW.size, h3⟩)
      case a11 => exact ask_copy (guard_none rfl) (.tmp 26) (.inr rfl) (by intro k hk; cases hk; rfl)
    · intro a' W hW hd' hs' hf'
      have t4 : Row W w.heap.size (a'.tmps.getD 4 undef) (nodeT L R) := hf' 4 rfl
      obtain ⟨us', hus, ha'⟩ := act_open 27 a' hs' hd'
      rw [← hus] at t4
      have el : ((List.range 27).map us').toArray = #[us' 0, us' 1, us' 2, us' 3, us' 4, us' 5, us' 6, us' 7, us' 8, us' 9, us' 10, us' 11, us' 12, us' 13, us' 14, us' 15, us' 16, us' 17, us' 18, us' 19, us' 20, us' 21, us' 22, us' 23, us' 24, us' 25, us' 26] := rfl
      rw [el] at ha'
      subst ha'
      have HO := Lib.hid t4
      have HW := Lib.hid hW
      clear hus t4 el hf' hs' hd' hG hW
      go_wp2
      go_ret
      exact ⟨_, rfl, HO.out, HW.out⟩
  · obtain ⟨x, rfl⟩ : ∃ x, T = [x] := by
      match T, h1, h2 with
      | [x], _, _ => exact ⟨x, rfl⟩
      | _ :: _ :: _, _, h2 => simp at h2
    rw [hashedT_one]
    obtain ⟨ad, A, C, rfl, hc, hx⟩ := hv.at_ (i := 0) (t := x) rfl
    have hl := hT.get (i := 0) (t := x) rfl
    rw [show ad.add 0 = ad by simp [Addr.add]] at hc
    have HLd := Lib.hid (load_txt w ad _ hc)
    have HLeaf := Lib.hid (refleaftext_any x (.slice A x.length C) w hx (by omega))
    clear hv hT hk hn hc hx h1 h2
    go_enter Tryd.func68, Tryd.ntmps68
    go_wp2_with (refine wpList_load_by rfl 22 (.tmp 10) rfl _ _ rfl HLd.out ?_)
    refine HLeaf.out.mono ?_
    rintro e w2 ⟨u, rfl, hr, hb⟩
    have HR := Lib.hid hr
    have HB := Lib.hid hb
    clear hr hb HLeaf
    go_wp2
    go_ret
    exact ⟨_, rfl, HR.out, HB.out⟩
end Go.Proofs.YtdhfabjkpffhnaaDoor

/- Two texts as a value; what answers it, in drawn regions. -/
namespace Go.Proofs.YtdhfabjkpffhnaaDoor
set_option maxRecDepth 20000
open Go.RowKit ShaMath LeafMath ClashMath Reg

theorem Bys.form {W : World} {v : Value} {l : Bs} (h : Bys W v l) : ∃ a c, v = .slice a l.length c := by
  rcases h with ⟨rfl, rfl⟩ | ⟨ad, cap, h, _⟩
  · exact ⟨none, 0, rfl⟩
  · exact ⟨_, _, h⟩

/-- Bytes stay where a block that holds none is written. -/
theorem Bys.farP {W : World} {v : Value} {l : Bs} {g : Nat} {t : TypeId} {zs cs : Array Value} (h : Bys W v l) (hb : Blk W g t zs) (hz : ∀ (j : Nat) (u : Value), zs[j]? = some u → ∀ b, u ≠ bv b) : Bys (W.setRow g cs) v l := by
  rcases h with h | ⟨ad, cap, hv, hc⟩
  · exact .inl h
  · refine .inr ⟨ad, cap, hv, fun i hi => ?_⟩
    have h1 := hc i hi
    by_cases e : (ad.add i).block = g
    · exfalso
      unfold World.cell? at h1
      rw [e, show W.heap[g]? = _ from hb] at h1
      simp only at h1
      split at h1
      · cases h1
      · exact hz _ _ h1 _ rfl
    · have hx : (W.setRow g cs).heap[(ad.add i).block]? = W.heap[(ad.add i).block]? := setRow_other W g _ cs e
      unfold World.cell? at h1 ⊢
      rw [hx]
      exact h1

abbrev prC (a : Option Addr) (n c : Nat) (a' : Option Addr) (n' c' : Nat) : Array Value := #[.slice a n c, .slice a' n' c']
theorem prC_far (a : Option Addr) (n c : Nat) (a' : Option Addr) (n' c' : Nat) (j : Nat) (u : Value) (h : (prC a n c a' n' c')[j]? = some u) (b : UInt8) : u ≠ bv b := by
  match j, h with
  | 0, h => simp at h; subst h; simp [bv]
  | 1, h => simp at h; subst h; simp [bv]
theorem size_pair (a : Option Addr) (n c : Nat) (a' : Option Addr) (n' c' : Nat) : (Tryd.prog.info? 51).map (·.size) = some (prC a n c a' n' c').size := by
  show (Tryd.prog.info? 51).map (·.size) = some 2
  kernel_rfl
theorem pair_one (a : Option Addr) (n c : Nat) (a' : Option Addr) (n' c' : Nat) : (prC a n c a' n' c').all (·.oneCell') = true := by simp [Value.oneCell']

/-- Two texts, wherever they lie. -/
def PairB (W : World) (u : Value) (p : Bs × Bs) : Prop := ∃ a c a' c', u = .agg (prC a p.1.length c a' p.2.length c') ∧ Bys W (.slice a p.1.length c) p.1 ∧ Bys W (.slice a' p.2.length c') p.2

theorem PairB.below {W W' : World} {u : Value} {p : Bs × Bs} (h : PairB W u p) (hb : Below W.heap.size W W') : PairB W' u p := by
  obtain ⟨a, c, a', c', e, h1, h2⟩ := h
  exact ⟨a, c, a', c', e, h1.below (Nat.le_refl _) hb, h2.below (Nat.le_refl _) hb⟩
theorem PairB.none (W : World) : PairB W (.agg (prC .none 0 0 .none 0 0)) ([], []) := ⟨_, _, _, _, rfl, .inl ⟨rfl, rfl⟩, .inl ⟨rfl, rfl⟩⟩
theorem PairB.of {W : World} {x y : Value} {l r : Bs} (h1 : Bys W x l) (h2 : Bys W y r) : PairB W (.agg #[x, y]) (l, r) := by
  obtain ⟨a, c, rfl⟩ := h1.form
  obtain ⟨a', c', rfl⟩ := h2.form
  exact ⟨a, c, a', c', rfl, h1, h2⟩
theorem PairB.far {W : World} {u : Value} {p : Bs × Bs} {g : Nat} {a a' : Option Addr} {n c n' c' : Nat} {cs : Array Value} (h : PairB W u p) (hb : Blk W g 51 (prC a n c a' n' c')) : PairB (W.setRow g cs) u p := by
  obtain ⟨b, d, b', d', e, h1, h2⟩ := h
  exact ⟨b, d, b', d', e, h1.farP hb (prC_far _ _ _ _ _ _), h2.farP hb (prC_far _ _ _ _ _ _)⟩

theorem ret_pair {fn : Func} {p u : Tmp} (h : fn.results = #[.cell p 51, .tmp u]) (tmps : Array Value) (W : World) (g : Nat) (a : Option Addr) (n c : Nat) (a' : Option Addr) (n' c' : Nat) (x : Value) (hp : tmps.getD p undef = .pointer (some ⟨g, 0, none⟩)) (hc : tmps.getD u undef = x) (hb : Blk W g 51 (prC a n c a' n' c')) :
    (results fn tmps).run Tryd.prog W = .ok (.tuple #[.agg (prC a n c a' n' c'), x]) W := by
  have hl := run_loadVar_row (P := Tryd.prog) W g 51 51 (prC a n c a' n' c') (0, 0) _ hb Tryd.underlying51 rfl (size_pair _ _ _ _ _ _)
  rw [results_cell_tmp h, hp, hc]
  simp [asAddr, Result.andThen, hl]

/-- A result's block, nothing in it yet. -/
def PrW (w : World) (W : World) : Prop := Blk W w.heap.size 51 (prC none 0 0 none 0 0) ∧ Below w.heap.size w W
theorem PrW.new (w : World) : PrW w (w.alloc (.cells (prC none 0 0 none 0 0) 51)) := ⟨Blk.new w _ _, (Below.refl _ _).alloc (Nat.le_refl _) _⟩
theorem PrW.keep {w W W' : World} (H : PrW w W) (hb : Below W.heap.size W W') : PrW w W' := ⟨H.1.keep hb, H.2.trans (hb.mono H.2.size)⟩
theorem PrW.lt {w W : World} (H : PrW w W) : w.heap.size + 1 ≤ W.heap.size := H.1.lt
theorem PrW.row {w W : World} (H : PrW w W) (g : Nat) (cs : Array Value) (hg : w.heap.size + 1 ≤ g) : PrW w (W.setRow g cs) := ⟨H.1.rowOther _ (by omega), below_setRow H.2 _ _ (by omega)⟩

def tupPF (b : Value) (p : Bs × Bs) : Fact := .sat (fun v W => ∃ u, v = .tuple #[u, b] ∧ PairB W u p) fun _ _ _ ⟨u, h1, h2⟩ hb => ⟨u, h1, h2.below hb⟩
def prF (p : Bs × Bs) : Fact := .sat (fun u W => PairB W u p) fun _ _ _ h hb => h.below hb
def varPF (B : Nat) (p : Bs × Bs) : Fact := .sat (fun u W => ∃ g a c a' c', u = .pointer (some ⟨g, 0, none⟩) ∧ B ≤ g ∧ Blk W g 51 (prC a p.1.length c a' p.2.length c') ∧ Bys W (.slice a p.1.length c) p.1 ∧ Bys W (.slice a' p.2.length c') p.2)
  fun _ _ _ ⟨g, a, c, a', c', h1, h2, h3, h4, h5⟩ hb => ⟨g, a, c, a', c', h1, h2, h3.keep hb, h4.below (Nat.le_refl _) hb, h5.below (Nat.le_refl _) hb⟩
/-- The value, and that it lies in block g. -/
def atPF (g : Nat) (p : Bs × Bs) : Fact := .sat (fun u W => ∃ a c a' c', u = .agg (prC a p.1.length c a' p.2.length c') ∧ Blk W g 51 (prC a p.1.length c a' p.2.length c') ∧ Bys W (.slice a p.1.length c) p.1 ∧ Bys W (.slice a' p.2.length c') p.2)
  fun _ _ _ ⟨a, c, a', c', h1, h3, h4, h5⟩ hb => ⟨a, c, a', c', h1, h3.keep hb, h4.below (Nat.le_refl _) hb, h5.below (Nat.le_refl _) hb⟩

section
variable {ops : Array Oper} {tab : List (List Nat)} {fin : List Tmp} {G : World → Prop} {f : Tmp → Fact} {i : Nat} {o : Oper}
theorem ask_ext0P (hG : ∀ W W', G W → Below W.heap.size W W' → G W') (hg : guardOk ops f o) (s : Operand) (b : Value) (p : Bs × Bs) (ho : o.op = .extract s 0) (hs : opFact f s = tupPF b p) (hd : ∀ k, o.dst = some k → f k = prF p) : Asked Tryd.prog ops tab fin G f i o := by
  refine ask_grow hG hg fun x W hW hk => ?_
  have e1 := told_op hk s (by rw [ho]; simp [Op.operands])
  rw [hs] at e1
  obtain ⟨u, e, hv⟩ : ∃ u, evalBy x s = .tuple #[u, b] ∧ PairB W u p := e1
  refine gives_value (v := u) (w' := W) ?_ ⟨Below.refl _ _, fun k hk => by rw [hd k hk]; exact hv⟩
  simp [execOp, ho, e, Instr.extract]
theorem ask_ext1P (hg : guardOk ops f o) (s : Operand) (b : Value) (p : Bs × Bs) (ho : o.op = .extract s 1) (hs : opFact f s = tupPF b p) (hd : ∀ k, o.dst = some k → f k = .is b) : Asked Tryd.prog ops tab fin G f i o := by
  refine ask_val hg b hd fun x W hW hk => ?_
  have e1 := told_op hk s (by rw [ho]; simp [Op.operands])
  rw [hs] at e1
  obtain ⟨u, e, hv⟩ : ∃ u, evalBy x s = .tuple #[u, b] ∧ PairB W u p := e1
  simp [execOp, ho, e, Instr.extract]
theorem ask_conv_bys (hg : guardOk ops f o) (s : Operand) (l : Bs) (X : ByteArray) (hX : X = ⟨l.toArray⟩) (ho : o.op = .convert 22 9 s) (hs : ∀ x W, G W → Told ops f o x W → Bys W (evalBy x s) l) (hd : ∀ k, o.dst = some k → f k = .is (.string X)) : Asked Tryd.prog ops tab fin G f i o := by
  refine ask_val hg _ hd fun x W hW hk => ?_
  have e1 := conv_bys (hs x W hW hk)
  rw [← hX] at e1
  simp [execOp, ho, e1, Result.andThen]
end

/-- Texts as strings. -/
theorem strs_of (a b : Bs) : ∃ X Y : ByteArray, X = ⟨a.toArray⟩ ∧ Y = ⟨b.toArray⟩ ∧ (X.toList == Y.toList) = decide (a = b) := by
  refine ⟨_, _, rfl, rfl, ?_⟩
  rw [ByteArray.toList_mk, ByteArray.toList_mk]
  by_cases h : a = b
  · rw [decide_eq_true h, h]; exact (beq_self_eq_true b)
  · rw [decide_eq_false h]; exact (beq_false_of_ne h)
end Go.Proofs.YtdhfabjkpffhnaaDoor

/- Layer 17's reference: down. -/
namespace Go.Proofs.YtdhfabjkpffhnaaDoor
set_option maxRecDepth 20000
open Go.RowKit ShaMath LeafMath ClashMath Reg

/-- A result's block, whatever is in it. -/
def PrV (w : World) (W : World) : Prop := (∃ a n c a' n' c', Blk W w.heap.size 51 (prC a n c a' n' c')) ∧ Below w.heap.size w W
theorem PrV.keep {w W W' : World} (H : PrV w W) (hb : Below W.heap.size W W') : PrV w W' := by
  obtain ⟨⟨a, n, c, a', n', c', h⟩, h2⟩ := H
  exact ⟨⟨a, n, c, a', n', c', h.keep hb⟩, h2.trans (hb.mono h2.size)⟩
theorem PrW.any {w W : World} (H : PrW w W) : PrV w W := ⟨⟨_, _, _, _, _, _, H.1⟩, H.2⟩

set_option maxHeartbeats 2000000 in
set_option maxRecDepth 100000 in
theorem refdown_any (n : Int) (hn : I64 n) : ∀ (m : Nat) (a b : List Bs) (va vb : Value) (w : World), a.length = m → b.length = m → 1 ≤ m → Txs w va a → Txs w vb b → Shorts a → Shorts b → Consts w →
    Calls Tryd.prog 62 #[.int .i64 n, va, vb] w fun e w' => ∃ u, e = .returned (.tuple #[u, .bool (downT n a b).isSome]) ∧ PairB w' u ((downT n a b).getD ([], [])) ∧ Below w.heap.size w w' := by
  intro m
  induction m using Nat.strongRecOn with
  | ind m ih =>
    intro a b va vb w ha hb h1 hva hvb hsa hsb hk
    obtain ⟨pa, ca, rfl, hca⟩ := hva.form
    obtain ⟨pb, cb, rfl, hcb⟩ := hvb.form
    rw [ha] at hva hca ⊢
    rw [hb] at hvb hcb ⊢
    have hm80 : m ≤ 80 := by rw [← ha]; exact hsa.few
    have HX := Lib.hid (fun (W : World) (hW : Below w.heap.size w W) => refhashed_any n hn a (.slice pa m ca) W (hva.below (Nat.le_refl _) hW) hsa (by omega) (hk.below (Nat.le_refl _) hW))
    have HY := Lib.hid (fun (W : World) (hW : Below w.heap.size w W) => refhashed_any n hn b (.slice pb m cb) W (hvb.below (Nat.le_refl _) hW) hsb (by omega) (hk.below (Nat.le_refl _) hW))
    have HP := Lib.hid (PrW.new w)
    by_cases hne : hashedT n a = hashedT n b
    · rw [← hne] at HY
      obtain ⟨x, hx⟩ : ∃ x, x = hashedT n a := ⟨_, rfl⟩
      rw [← hx] at HX HY
      obtain ⟨X, hX⟩ : ∃ X : ByteArray, X = ⟨x.toArray⟩ := ⟨_, rfl⟩
      have HXs := Lib.hid hX
      have HYs := Lib.hid hX
      have hxx : (X.toList == X.toList) = true := beq_self_eq_true _
      clear hX
      by_cases hm1 : m = 1
      · rw [downT_one n a b hne (by omega)]
        subst hm1
        clear ih hva hvb hsa hsb hk hn ha hb hne hx
        go_enter Tryd.func62, Tryd.ntmps62
        go_upto_region 1 with fail
        refine world_cut (fun W => PrW w W) HP.out ?_
        clear HP
        intro W1 hW1
        have HW1 := Lib.hid hW1
        clear hW1
        go_wp2_with fail
        refine (HX.out _ HW1.out.2).mono ?_
        rintro e W2 ⟨ux, rfl, hr2, hb2⟩
        have HRx := Lib.hid hr2.bys
        have HW2 := Lib.hid (HW1.out.keep hb2)
        clear hr2 hb2 HX HW1
        go_wp2_with fail
        refine (HY.out _ HW2.out.2).mono ?_
        rintro e W3 ⟨uy, rfl, hr3, hb3⟩
        have HRy := Lib.hid hr3.bys
        have HRx3 := Lib.hid (HRx.out.below (Nat.le_refl _) hb3)
        have HW3 := Lib.hid (HW2.out.keep hb3)
        clear hr3 hb3 HY HW2 HRx
        have c1 := conv_bys HRx3.out
        have c2 := conv_bys HRy.out
        rw [← HXs.out] at c1
        rw [← HYs.out] at c2
        go_wp2_with (refine wpList_store_row rfl 51 (.tmp 6) (.tmp 30) rfl w.heap.size (prC none 0 0 none 0 0) rfl rfl 51 _ HW3.out.1 (size_pair _ _ _ _ _ _) rfl (pair_one _ _ _ _ _ _) ?_)
        exact bodyPost_ret (v := .tuple #[.agg (prC none 0 0 none 0 0), .bool false]) (ret_pair rfl _ _ w.heap.size _ _ _ _ _ _ _ rfl rfl (Blk.row HW3.out.1 _)) rfl ⟨_, rfl, PairB.none _, below_setRow HW3.out.2 _ _ (Nat.le_refl _)⟩
      · have h2 : 2 ≤ a.length := by omega
        have hk1 := splitN_lt h2
        have hk0 := splitN_pos a.length
        have hdn := downT_more n a b hne h2
        obtain ⟨k, hkk⟩ : ∃ k, k = splitN a.length := ⟨_, rfl⟩
        rw [← hkk] at hk1 hk0 hdn
        rw [hdn]
        rw [ha] at hk1
        have HSplit := Lib.hid (fun W => refsplit_any m W (by omega) (by omega))
        rw [← ha, ← hkk, ha] at HSplit
        have hm1i : ¬ (m : Int) = 1 := by omega
        have HSa := Lib.hid (fun W => slice_txs_to pa m ca k (by omega) W)
        have HSb := Lib.hid (fun W => slice_txs_to pb m cb k (by omega) W)
        have HRec1 := Lib.hid (fun (W : World) (hW : Below w.heap.size w W) => ih k hk1 (a.take k) (b.take k) (.slice pa k ca) (.slice pb k cb) W (by rw [List.length_take]; omega) (by rw [List.length_take]; omega) hk0 ((hva.take k (by omega)).below (Nat.le_refl _) hW) ((hvb.take k (by omega)).below (Nat.le_refl _) hW) (hsa.take k) (hsb.take k) (hk.below (Nat.le_refl _) hW))
        cases hD1 : downT n (a.take k) (b.take k) with
        | some p =>
          rw [hD1] at HRec1
          simp only [Option.isSome_some, Option.getD_some] at HRec1 ⊢
          clear ih hva hvb hsa hsb hk hn ha hb hne hx hD1 hdn hkk h2
          go_enter Tryd.func62, Tryd.ntmps62
          go_upto_region 1 with fail
          refine world_cut (fun W => PrW w W) HP.out ?_
          clear HP
          intro W1 hW1
          have HW1 := Lib.hid hW1
          clear hW1
          go_wp2_with fail
          refine (HX.out _ HW1.out.2).mono ?_
          rintro e W2 ⟨ux, rfl, hr2, hb2⟩
          have HRx := Lib.hid hr2.bys
          have HW2 := Lib.hid (HW1.out.keep hb2)
          clear hr2 hb2 HX HW1
          go_wp2_with fail
          refine (HY.out _ HW2.out.2).mono ?_
          rintro e W3 ⟨uy, rfl, hr3, hb3⟩
          have HRy := Lib.hid hr3.bys
          have HRx3 := Lib.hid (HRx.out.below (Nat.le_refl _) hb3)
          have HW3 := Lib.hid (HW2.out.keep hb3)
          clear hr3 hb3 HY HW2 HRx
          have c1 := conv_bys HRx3.out
          have c2 := conv_bys HRy.out
          rw [← HXs.out] at c1
          rw [← HYs.out] at c2
          go_wp2_with fail
          refine (HSplit.out _).mono ?_
          rintro e w4 ⟨rfl, rfl⟩
          clear HSplit
          go_upto_region 8 with fail
          clear c1 c2
          have hG : ∀ W W' : World, PrW w W → Below W.heap.size W W' → PrW w W' := fun W W' h h' => h.keep h'
          refine region_fill_by 12 _ (fun b => [(11, (if b then varPF (w.heap.size + 1) p else varF (w.heap.size + 1) 51 (prC none 0 0 none 0 0))), (35, .is (.int .i64 n)), (36, .is (.slice pa m ca)), (37, .is (.int .i64 (k : Int))), (38, .is (.slice pa k ca)), (39, .is (.slice pb m cb)), (40, .is (.int .i64 (k : Int))), (41, .is (.slice pb k cb)), (42, tupPF (.bool true) p), (34, tupPF (.bool true) p), (43, prF p), (44, .is (.bool true)), (12, .is (.bool true))]) [6, 11, 12] (fun W => PrW w W) (by kernel_rfl) (by kernel_rfl) (by kernel_rfl) (by kernel_rfl) (by kernel_rfl) (hG _ _ HW3.out (Below.refl _ _).drew) rfl rfl ?_ ?_ ?_
          · refine ⟨?c0, ?c1, ?c2, ?c3, ?c4, ?c5, ?c6, ?c7, ?c8, ?c9, ?c10, ?c11, ?c12, ?c13, trivial⟩
            case c0 => exact .inr (.inl fun b => ask_copy (guard_none rfl) (.tmp 0) (.inl rfl) (by intro k hk; cases hk; rfl))
            case c1 => exact .inr (.inl fun b => ask_copy (guard_none rfl) (.tmp 1) (.inl rfl) (by intro k hk; cases hk; rfl))
            case c2 => exact .inr (.inl fun b => ask_copy (guard_none rfl) (.tmp 10) (.inl rfl) (by intro k hk; cases hk; rfl))
            case c3 => exact .inr (.inl fun b => ask_slice (guard_none rfl) _ (.tmp 36) none (some (.tmp 37)) none (.slice pa m ca) (.slice pa k ca) none (some (.int .i64 (k : Int))) none rfl rfl rfl rfl rfl (by intro k hk; cases hk; rfl) HSa.out)
            case c4 => exact .inr (.inl fun b => ask_copy (guard_none rfl) (.tmp 2) (.inl rfl) (by intro k hk; cases hk; rfl))
            case c5 => exact .inr (.inl fun b => ask_copy (guard_none rfl) (.tmp 10) (.inl rfl) (by intro k hk; cases hk; rfl))
            case c6 => exact .inr (.inl fun b => ask_slice (guard_none rfl) _ (.tmp 39) none (some (.tmp 40)) none (.slice pb m cb) (.slice pb k cb) none (some (.int .i64 (k : Int))) none rfl rfl rfl rfl rfl (by intro k hk; cases hk; rfl) HSb.out)
            case c7 => exact .inr (.inl fun b => ask_call hG (guard_none rfl) _ _ _ #[.int .i64 n, .slice pa k ca, .slice pb k cb] (tupPF (.bool true) p) rfl (by kernel_rfl) rfl rfl (by intro k hk; cases hk; rfl) (fun W hW => (HRec1.out W hW.2).mono fun e w' h => by obtain ⟨u, h1, h2, h3⟩ := h; exact ⟨_, h1, ⟨u, rfl, h2⟩, h3⟩))
            case c8 => exact .inr (.inl fun b => ask_copy (guard_none rfl) (.tmp 42) (.inl rfl) (by intro k hk; cases hk; rfl))
            case c9 => exact .inr (.inl fun b => ask_ext0P hG (guard_none rfl) (.tmp 34) _ _ rfl rfl (by intro k hk; cases hk; rfl))
            case c10 => exact .inr (.inl fun b => ask_ext1P (guard_none rfl) (.tmp 34) _ _ rfl rfl (by intro k hk; cases hk; rfl))
            case c11 => exact .inr (.inr ⟨by kernel_rfl, ask_alloc hG (guard_none rfl) _ (.agg (prC none 0 0 none 0 0)) (varF (w.heap.size + 1) 51 (prC none 0 0 none 0 0)) rfl (fun W => by kernel_rfl) (by intro k hk; cases hk; rfl) (fun W hW => ⟨_, rfl, hW.lt, Blk.new W _ _⟩)⟩)
            case c12 => exact .inl rfl
            case c13 => exact .inr (.inl fun b => ask_copy (guard_none rfl) (.tmp 44) (.inr rfl) (by intro k hk; cases hk; rfl))
          · intro x W hW hk
            obtain ⟨g, e1, e2, e3⟩ : ∃ g, x 11 = .pointer (some ⟨g, 0, none⟩) ∧ w.heap.size + 1 ≤ g ∧ Blk W g 51 (prC none 0 0 none 0 0) := hk 11 rfl
            obtain ⟨a1, c1, a2, c2, e4, b1, b2⟩ : PairB W (x 43) p := hk 43 rfl
            refine ⟨guard_ok (guard_none rfl) hk, gives_store 51 (.tmp 11) (.tmp 43) rfl (.pointer (some ⟨g, 0, none⟩)) _ e1 e4 (e3.stores 51 _ (size_pair _ _ _ _ _ _) rfl (pair_one _ _ _ _ _ _)) ⟨hW.row g _ e2, fun k _ hu => ?_⟩⟩
            by_cases h11 : k = 11
            · subst h11
              exact ⟨g, a1, c1, a2, c2, e1, e2, e3.row _, b1.farP e3 (prC_far _ _ _ _ _ _), b2.farP e3 (prC_far _ _ _ _ _ _)⟩
            · simp only [factsOf_ne h11] at hu ⊢
              refine facts_keep (fun q hq u hu => ?_) k _ hu
              simp only [List.mem_cons, List.not_mem_nil, or_false] at hq
              rcases hq with rfl | rfl | rfl | rfl | rfl | rfl | rfl | rfl | rfl | rfl | rfl | rfl
              all_goals first
                | exact hu
                | (obtain ⟨u, q1, q2⟩ := hu; exact ⟨u, q1, q2.far e3⟩)
                | exact PairB.far hu e3
          · intro a' W5 hW hd' hs' hf'
            obtain ⟨g, a1, c1, a2, c2, e11, hg, hbg, hy1, hy2⟩ : ∃ g a c a'' c', a'.tmps.getD 11 undef = .pointer (some ⟨g, 0, none⟩) ∧ w.heap.size + 1 ≤ g ∧ Blk W5 g 51 (prC a p.1.length c a'' p.2.length c') ∧ Bys W5 (.slice a p.1.length c) p.1 ∧ Bys W5 (.slice a'' p.2.length c') p.2 := hf' 11 rfl
            have t6 : a'.tmps.getD 6 undef = .pointer (some ⟨w.heap.size, 0, none⟩) := hf' 6 rfl
            have t11 : a'.tmps.getD 11 undef = .pointer (some ⟨g, 0, none⟩) := e11
            have t12 : a'.tmps.getD 12 undef = .bool true := hf' 12 rfl
            obtain ⟨us', hus, ha'⟩ := act_open 57 a' hs' hd'
            rw [← hus] at t6 t11 t12
            have el : ((List.range 57).map us').toArray = #[us' 0, us' 1, us' 2, us' 3, us' 4, us' 5, .pointer (some ⟨w.heap.size, 0, none⟩), us' 7, us' 8, us' 9, us' 10, .pointer (some ⟨g, 0, none⟩), .bool true, us' 13, us' 14, us' 15, us' 16, us' 17, us' 18, us' 19, us' 20, us' 21, us' 22, us' 23, us' 24, us' 25, us' 26, us' 27, us' 28, us' 29, us' 30, us' 31, us' 32, us' 33, us' 34, us' 35, us' 36, us' 37, us' 38, us' 39, us' 40, us' 41, us' 42, us' 43, us' 44, us' 45, us' 46, us' 47, us' 48, us' 49, us' 50, us' 51, us' 52, us' 53, us' 54, us' 55, us' 56] := by
              show #[us' 0, us' 1, us' 2, us' 3, us' 4, us' 5, us' 6, us' 7, us' 8, us' 9, us' 10, us' 11, us' 12, us' 13, us' 14, us' 15, us' 16, us' 17, us' 18, us' 19, us' 20, us' 21, us' 22, us' 23, us' 24, us' 25, us' 26, us' 27, us' 28, us' 29, us' 30, us' 31, us' 32, us' 33, us' 34, us' 35, us' 36, us' 37, us' 38, us' 39, us' 40, us' 41, us' 42, us' 43, us' 44, us' 45, us' 46, us' 47, us' 48, us' 49, us' 50, us' 51, us' 52, us' 53, us' 54, us' 55, us' 56] = _
              rw [t6, t11, t12]
            rw [el] at ha'
            subst ha'
            clear e11 hus t6 t11 t12 el hf' hs' hd'
            have HBg := Lib.hid hbg
            have HY1 := Lib.hid hy1
            have HY2 := Lib.hid hy2
            have HW5 := Lib.hid hW
            clear hbg hy1 hy2 hW hG hg
            go_wp2_with (first
              | (refine wpList_load_row rfl 51 (.tmp 11) rfl g rfl 51 (prC a1 p.1.length c1 a2 p.2.length c2) (0, 0) _ HBg.out Tryd.underlying51 rfl (size_pair _ _ _ _ _ _) ?_)
              | (refine wpList_store_row rfl 51 (.tmp 6) (.tmp 46) rfl w.heap.size (prC a1 p.1.length c1 a2 p.2.length c2) rfl rfl 51 _ HW5.out.1 (size_pair _ _ _ _ _ _) rfl (pair_one _ _ _ _ _ _) ?_))
            exact bodyPost_ret (v := .tuple #[.agg (prC a1 p.1.length c1 a2 p.2.length c2), .bool true]) (ret_pair rfl _ _ w.heap.size _ _ _ _ _ _ _ rfl rfl (Blk.row HW5.out.1 _)) rfl ⟨_, rfl, ⟨a1, c1, a2, c2, rfl, HY1.out.farP HW5.out.1 (prC_far _ _ _ _ _ _), HY2.out.farP HW5.out.1 (prC_far _ _ _ _ _ _)⟩, below_setRow HW5.out.2 _ _ (Nat.le_refl _)⟩
        | none =>
          rw [hD1] at HRec1
          simp only [Option.isSome_none, Option.getD_none] at HRec1 ⊢
          obtain ⟨va2, hva2⟩ : ∃ v, v = sliced pa k m ca 1 := ⟨_, rfl⟩
          obtain ⟨vb2, hvb2⟩ : ∃ v, v = sliced pb k m cb 1 := ⟨_, rfl⟩
          have h1s := hva.drop k (by omega)
          have h2s := hvb.drop k (by omega)
          rw [← hva2] at h1s
          rw [← hvb2] at h2s
          have HSa2 := Lib.hid (show ∀ W, (Instr.sliceAt 48 (.slice pa m ca) (some (.int .i64 (k : Int))) none none).run Tryd.prog W = .ok va2 W from fun W => by rw [hva2]; exact slice_txs_from pa m ca k (by omega) W)
          have HSb2 := Lib.hid (show ∀ W, (Instr.sliceAt 48 (.slice pb m cb) (some (.int .i64 (k : Int))) none none).run Tryd.prog W = .ok vb2 W from fun W => by rw [hvb2]; exact slice_txs_from pb m cb k (by omega) W)
          have HRec2 := Lib.hid (fun (W : World) (hW : Below w.heap.size w W) => ih (m - k) (by omega) (a.drop k) (b.drop k) va2 vb2 W (by rw [List.length_drop]; omega) (by rw [List.length_drop]; omega) (by omega) (h1s.below (Nat.le_refl _) hW) (h2s.below (Nat.le_refl _) hW) (hsa.drop k) (hsb.drop k) (hk.below (Nat.le_refl _) hW))
          obtain ⟨B2, hB2⟩ : ∃ B2, B2 = (downT n (a.drop k) (b.drop k)).isSome := ⟨_, rfl⟩
          obtain ⟨Q2, hQ2⟩ : ∃ Q2, Q2 = (downT n (a.drop k) (b.drop k)).getD ([], []) := ⟨_, rfl⟩
          rw [← hB2, ← hQ2] at HRec2 ⊢
          clear ih hva hvb hsa hsb hk hn ha hb hne hx hD1 hdn hkk h2 h1s h2s hva2 hvb2 hB2 hQ2
          go_enter Tryd.func62, Tryd.ntmps62
          go_upto_region 1 with fail
          refine world_cut (fun W => PrW w W) HP.out ?_
          clear HP
          intro W1 hW1
          have HW1 := Lib.hid hW1
          clear hW1
          go_wp2_with fail
          refine (HX.out _ HW1.out.2).mono ?_
          rintro e W2 ⟨ux, rfl, hr2, hb2⟩
          have HRx := Lib.hid hr2.bys
          have HW2 := Lib.hid (HW1.out.keep hb2)
          clear hr2 hb2 HX HW1
          go_wp2_with fail
          refine (HY.out _ HW2.out.2).mono ?_
          rintro e W3 ⟨uy, rfl, hr3, hb3⟩
          have HRy := Lib.hid hr3.bys
          have HRx3 := Lib.hid (HRx.out.below (Nat.le_refl _) hb3)
          have HW3 := Lib.hid (HW2.out.keep hb3)
          clear hr3 hb3 HY HW2 HRx
          have c1 := conv_bys HRx3.out
          have c2 := conv_bys HRy.out
          rw [← HXs.out] at c1
          rw [← HYs.out] at c2
          go_wp2_with fail
          refine (HSplit.out _).mono ?_
          rintro e w4 ⟨rfl, rfl⟩
          clear HSplit
          go_upto_region 8 with fail
          clear c1 c2
          have hG : ∀ W W' : World, PrW w W → Below W.heap.size W W' → PrW w W' := fun W W' h h' => h.keep h'
          refine region_fill_by 12 _ (fun b => [(11, (if b then varPF (w.heap.size + 1) ([], []) else varF (w.heap.size + 1) 51 (prC none 0 0 none 0 0))), (35, .is (.int .i64 n)), (36, .is (.slice pa m ca)), (37, .is (.int .i64 (k : Int))), (38, .is (.slice pa k ca)), (39, .is (.slice pb m cb)), (40, .is (.int .i64 (k : Int))), (41, .is (.slice pb k cb)), (42, tupPF (.bool false) ([], [])), (34, tupPF (.bool false) ([], [])), (43, prF ([], [])), (44, .is (.bool false)), (12, .is (.bool false))]) [0, 1, 2, 6, 10, 12] (fun W => PrW w W) (by kernel_rfl) (by kernel_rfl) (by kernel_rfl) (by kernel_rfl) (by kernel_rfl) (hG _ _ HW3.out (Below.refl _ _).drew) rfl rfl ?_ ?_ ?_
          · refine ⟨?c0, ?c1, ?c2, ?c3, ?c4, ?c5, ?c6, ?c7, ?c8, ?c9, ?c10, ?c11, ?c12, ?c13, trivial⟩
            case c0 => exact .inr (.inl fun b => ask_copy (guard_none rfl) (.tmp 0) (.inl rfl) (by intro k hk; cases hk; rfl))
            case c1 => exact .inr (.inl fun b => ask_copy (guard_none rfl) (.tmp 1) (.inl rfl) (by intro k hk; cases hk; rfl))
            case c2 => exact .inr (.inl fun b => ask_copy (guard_none rfl) (.tmp 10) (.inl rfl) (by intro k hk; cases hk; rfl))
            case c3 => exact .inr (.inl fun b => ask_slice (guard_none rfl) _ (.tmp 36) none (some (.tmp 37)) none (.slice pa m ca) (.slice pa k ca) none (some (.int .i64 (k : Int))) none rfl rfl rfl rfl rfl (by intro k hk; cases hk; rfl) HSa.out)
            case c4 => exact .inr (.inl fun b => ask_copy (guard_none rfl) (.tmp 2) (.inl rfl) (by intro k hk; cases hk; rfl))
            case c5 => exact .inr (.inl fun b => ask_copy (guard_none rfl) (.tmp 10) (.inl rfl) (by intro k hk; cases hk; rfl))
            case c6 => exact .inr (.inl fun b => ask_slice (guard_none rfl) _ (.tmp 39) none (some (.tmp 40)) none (.slice pb m cb) (.slice pb k cb) none (some (.int .i64 (k : Int))) none rfl rfl rfl rfl rfl (by intro k hk; cases hk; rfl) HSb.out)
            case c7 => exact .inr (.inl fun b => ask_call hG (guard_none rfl) _ _ _ #[.int .i64 n, .slice pa k ca, .slice pb k cb] (tupPF (.bool false) ([], [])) rfl (by kernel_rfl) rfl rfl (by intro k hk; cases hk; rfl) (fun W hW => (HRec1.out W hW.2).mono fun e w' h => by obtain ⟨u, h1, h2, h3⟩ := h; exact ⟨_, h1, ⟨u, rfl, h2⟩, h3⟩))
            case c8 => exact .inr (.inl fun b => ask_copy (guard_none rfl) (.tmp 42) (.inl rfl) (by intro k hk; cases hk; rfl))
            case c9 => exact .inr (.inl fun b => ask_ext0P hG (guard_none rfl) (.tmp 34) _ _ rfl rfl (by intro k hk; cases hk; rfl))
            case c10 => exact .inr (.inl fun b => ask_ext1P (guard_none rfl) (.tmp 34) _ _ rfl rfl (by intro k hk; cases hk; rfl))
            case c11 => exact .inr (.inr ⟨by kernel_rfl, ask_alloc hG (guard_none rfl) _ (.agg (prC none 0 0 none 0 0)) (varF (w.heap.size + 1) 51 (prC none 0 0 none 0 0)) rfl (fun W => by kernel_rfl) (by intro k hk; cases hk; rfl) (fun W hW => ⟨_, rfl, hW.lt, Blk.new W _ _⟩)⟩)
            case c12 => exact .inl rfl
            case c13 => exact .inr (.inl fun b => ask_copy (guard_none rfl) (.tmp 44) (.inr rfl) (by intro k hk; cases hk; rfl))
          · intro x W hW hk
            obtain ⟨g, e1, e2, e3⟩ : ∃ g, x 11 = .pointer (some ⟨g, 0, none⟩) ∧ w.heap.size + 1 ≤ g ∧ Blk W g 51 (prC none 0 0 none 0 0) := hk 11 rfl
            obtain ⟨a1, c1, a2, c2, e4, b1, b2⟩ : PairB W (x 43) ([], []) := hk 43 rfl
            refine ⟨guard_ok (guard_none rfl) hk, gives_store 51 (.tmp 11) (.tmp 43) rfl (.pointer (some ⟨g, 0, none⟩)) _ e1 e4 (e3.stores 51 _ (size_pair _ _ _ _ _ _) rfl (pair_one _ _ _ _ _ _)) ⟨hW.row g _ e2, fun k _ hu => ?_⟩⟩
            by_cases h11 : k = 11
            · subst h11
              exact ⟨g, a1, c1, a2, c2, e1, e2, e3.row _, b1.farP e3 (prC_far _ _ _ _ _ _), b2.farP e3 (prC_far _ _ _ _ _ _)⟩
            · simp only [factsOf_ne h11] at hu ⊢
              refine facts_keep (fun q hq u hu => ?_) k _ hu
              simp only [List.mem_cons, List.not_mem_nil, or_false] at hq
              rcases hq with rfl | rfl | rfl | rfl | rfl | rfl | rfl | rfl | rfl | rfl | rfl | rfl
              all_goals first
                | exact hu
                | (obtain ⟨u, q1, q2⟩ := hu; exact ⟨u, q1, q2.far e3⟩)
                | exact PairB.far hu e3
          · intro a' W5 hW hd' hs' hf'
            have t0 : a'.tmps.getD 0 undef = .int .i64 n := hf' 0 rfl
            have t1 : a'.tmps.getD 1 undef = .slice pa m ca := hf' 1 rfl
            have t2 : a'.tmps.getD 2 undef = .slice pb m cb := hf' 2 rfl
            have t6 : a'.tmps.getD 6 undef = .pointer (some ⟨w.heap.size, 0, none⟩) := hf' 6 rfl
            have t10 : a'.tmps.getD 10 undef = .int .i64 (k : Int) := hf' 10 rfl
            have t12 : a'.tmps.getD 12 undef = .bool false := hf' 12 rfl
            obtain ⟨us', hus, ha'⟩ := act_open 57 a' hs' hd'
            rw [← hus] at t0 t1 t2 t6 t10 t12
            have el : ((List.range 57).map us').toArray = #[.int .i64 n, .slice pa m ca, .slice pb m cb, us' 3, us' 4, us' 5, .pointer (some ⟨w.heap.size, 0, none⟩), us' 7, us' 8, us' 9, .int .i64 (k : Int), us' 11, .bool false, us' 13, us' 14, us' 15, us' 16, us' 17, us' 18, us' 19, us' 20, us' 21, us' 22, us' 23, us' 24, us' 25, us' 26, us' 27, us' 28, us' 29, us' 30, us' 31, us' 32, us' 33, us' 34, us' 35, us' 36, us' 37, us' 38, us' 39, us' 40, us' 41, us' 42, us' 43, us' 44, us' 45, us' 46, us' 47, us' 48, us' 49, us' 50, us' 51, us' 52, us' 53, us' 54, us' 55, us' 56] := by
              show #[us' 0, us' 1, us' 2, us' 3, us' 4, us' 5, us' 6, us' 7, us' 8, us' 9, us' 10, us' 11, us' 12, us' 13, us' 14, us' 15, us' 16, us' 17, us' 18, us' 19, us' 20, us' 21, us' 22, us' 23, us' 24, us' 25, us' 26, us' 27, us' 28, us' 29, us' 30, us' 31, us' 32, us' 33, us' 34, us' 35, us' 36, us' 37, us' 38, us' 39, us' 40, us' 41, us' 42, us' 43, us' 44, us' 45, us' 46, us' 47, us' 48, us' 49, us' 50, us' 51, us' 52, us' 53, us' 54, us' 55, us' 56] = _
              rw [t0, t1, t2, t6, t10, t12]
            rw [el] at ha'
            subst ha'
            clear hus t0 t1 t2 t6 t10 t12 el hf' hs' hd'
            have HV5 := Lib.hid hW.any
            clear hW hG
            go_upto_region 11 with fail
            have hG : ∀ W W' : World, PrV w W → Below W.heap.size W W' → PrV w W' := fun W W' h h' => h.keep h'
            refine region_fill_by 10 _ (fun b => [(55, (if b then atPF w.heap.size Q2 else prF Q2)), (47, .is (.int .i64 n)), (48, .is (.slice pa m ca)), (49, .is (.int .i64 (k : Int))), (50, .is va2), (51, .is (.slice pb m cb)), (52, .is (.int .i64 (k : Int))), (53, .is vb2), (54, tupPF (.bool B2) Q2), (56, .is (.bool B2)), (7, .is (.bool B2))]) [6, 7, 55] (fun W => PrV w W) (by kernel_rfl) (by kernel_rfl) (by kernel_rfl) (by kernel_rfl) (by kernel_rfl) (hG _ _ HV5.out (Below.refl _ _).drew) rfl rfl ?_ ?_ ?_
            · refine ⟨?c0, ?c1, ?c2, ?c3, ?c4, ?c5, ?c6, ?c7, ?c8, ?c9, ?c10, ?c11, trivial⟩
              case c0 => exact .inr (.inl fun b => ask_copy (guard_none rfl) (.tmp 0) (.inl rfl) (by intro k hk; cases hk; rfl))
              case c1 => exact .inr (.inl fun b => ask_copy (guard_none rfl) (.tmp 1) (.inl rfl) (by intro k hk; cases hk; rfl))
              case c2 => exact .inr (.inl fun b => ask_copy (guard_none rfl) (.tmp 10) (.inl rfl) (by intro k hk; cases hk; rfl))
              case c3 => exact .inr (.inl fun b => ask_slice (guard_none rfl) _ (.tmp 48) (some (.tmp 49)) none none (.slice pa m ca) va2 (some (.int .i64 (k : Int))) none none rfl rfl rfl rfl rfl (by intro k hk; cases hk; rfl) HSa2.out)
              case c4 => exact .inr (.inl fun b => ask_copy (guard_none rfl) (.tmp 2) (.inl rfl) (by intro k hk; cases hk; rfl))
              case c5 => exact .inr (.inl fun b => ask_copy (guard_none rfl) (.tmp 10) (.inl rfl) (by intro k hk; cases hk; rfl))
              case c6 => exact .inr (.inl fun b => ask_slice (guard_none rfl) _ (.tmp 51) (some (.tmp 52)) none none (.slice pb m cb) vb2 (some (.int .i64 (k : Int))) none none rfl rfl rfl rfl rfl (by intro k hk; cases hk; rfl) HSb2.out)
              case c7 => exact .inr (.inl fun b => ask_call hG (guard_none rfl) _ _ _ #[.int .i64 n, va2, vb2] (tupPF (.bool B2) Q2) rfl (by kernel_rfl) rfl rfl (by intro k hk; cases hk; rfl) (fun W hW => (HRec2.out W hW.2).mono fun e w' h => by obtain ⟨u, h1, h2, h3⟩ := h; exact ⟨_, h1, ⟨u, rfl, h2⟩, h3⟩))
              case c8 => exact .inr (.inr ⟨by kernel_rfl, ask_ext0P hG (guard_none rfl) (.tmp 54) _ _ rfl rfl (by intro k hk; cases hk; rfl)⟩)
              case c9 => exact .inr (.inl fun b => ask_ext1P (guard_none rfl) (.tmp 54) _ _ rfl rfl (by intro k hk; cases hk; rfl))
              case c10 => exact .inl rfl
              case c11 => exact .inr (.inl fun b => ask_copy (guard_none rfl) (.tmp 56) (.inr rfl) (by intro k hk; cases hk; rfl))
            · intro x W hW hk
              obtain ⟨⟨a0, n0, c0, a0', n0', c0', e3⟩, hB⟩ := hW
              obtain ⟨a1, c1, a2, c2, e4, b1, b2⟩ : PairB W (x 55) Q2 := hk 55 rfl
              have e1 : x 6 = .pointer (some ⟨w.heap.size, 0, none⟩) := hk 6 rfl
              refine ⟨guard_ok (guard_none rfl) hk, gives_store 51 (.tmp 6) (.tmp 55) rfl (.pointer (some ⟨w.heap.size, 0, none⟩)) _ e1 e4 (e3.stores 51 _ (size_pair _ _ _ _ _ _) rfl (pair_one _ _ _ _ _ _)) ⟨⟨⟨_, _, _, _, _, _, e3.row _⟩, below_setRow hB _ _ (Nat.le_refl _)⟩, fun k _ hu => ?_⟩⟩
              by_cases h55 : k = 55
              · subst h55
                exact ⟨a1, c1, a2, c2, e4, e3.row _, b1.farP e3 (prC_far _ _ _ _ _ _), b2.farP e3 (prC_far _ _ _ _ _ _)⟩
              · simp only [factsOf_ne h55] at hu ⊢
                refine facts_keep (fun q hq u hu => ?_) k _ hu
                simp only [List.mem_cons, List.not_mem_nil, or_false] at hq
                rcases hq with rfl | rfl | rfl | rfl | rfl | rfl | rfl | rfl | rfl | rfl
                all_goals first
                  | exact hu
                  | (obtain ⟨u, q1, q2⟩ := hu; exact ⟨u, q1, q2.far e3⟩)
                  | exact PairB.far hu e3
            · intro a' W6 hW hd' hs' hf'
              obtain ⟨a1, c1, a2, c2, e55, hbg, hy1, hy2⟩ : ∃ a c a'' c', a'.tmps.getD 55 undef = .agg (prC a Q2.1.length c a'' Q2.2.length c') ∧ Blk W6 w.heap.size 51 (prC a Q2.1.length c a'' Q2.2.length c') ∧ Bys W6 (.slice a Q2.1.length c) Q2.1 ∧ Bys W6 (.slice a'' Q2.2.length c') Q2.2 := hf' 55 rfl
              have t6 : a'.tmps.getD 6 undef = .pointer (some ⟨w.heap.size, 0, none⟩) := hf' 6 rfl
              have t7 : a'.tmps.getD 7 undef = .bool B2 := hf' 7 rfl
              obtain ⟨vs', hus, ha'⟩ := act_open 57 a' hs' hd'
              rw [← hus] at t6 t7
              have el : ((List.range 57).map vs').toArray = #[vs' 0, vs' 1, vs' 2, vs' 3, vs' 4, vs' 5, .pointer (some ⟨w.heap.size, 0, none⟩), .bool B2, vs' 8, vs' 9, vs' 10, vs' 11, vs' 12, vs' 13, vs' 14, vs' 15, vs' 16, vs' 17, vs' 18, vs' 19, vs' 20, vs' 21, vs' 22, vs' 23, vs' 24, vs' 25, vs' 26, vs' 27, vs' 28, vs' 29, vs' 30, vs' 31, vs' 32, vs' 33, vs' 34, vs' 35, vs' 36, vs' 37, vs' 38, vs' 39, vs' 40, vs' 41, vs' 42, vs' 43, vs' 44, vs' 45, vs' 46, vs' 47, vs' 48, vs' 49, vs' 50, vs' 51, vs' 52, vs' 53, vs' 54, vs' 55, vs' 56] := by
                show #[vs' 0, vs' 1, vs' 2, vs' 3, vs' 4, vs' 5, vs' 6, vs' 7, vs' 8, vs' 9, vs' 10, vs' 11, vs' 12, vs' 13, vs' 14, vs' 15, vs' 16, vs' 17, vs' 18, vs' 19, vs' 20, vs' 21, vs' 22, vs' 23, vs' 24, vs' 25, vs' 26, vs' 27, vs' 28, vs' 29, vs' 30, vs' 31, vs' 32, vs' 33, vs' 34, vs' 35, vs' 36, vs' 37, vs' 38, vs' 39, vs' 40, vs' 41, vs' 42, vs' 43, vs' 44, vs' 45, vs' 46, vs' 47, vs' 48, vs' 49, vs' 50, vs' 51, vs' 52, vs' 53, vs' 54, vs' 55, vs' 56] = _
                rw [t6, t7]
              rw [el] at ha'
              subst ha'
              clear hus t6 t7 el hf' hs' hd'
              have HBg := Lib.hid hbg
              have HY1 := Lib.hid hy1
              have HY2 := Lib.hid hy2
              have HW6 := Lib.hid hW.2
              clear hbg hy1 hy2 hW hG e55
              go_wp2
              exact bodyPost_ret (v := .tuple #[.agg (prC a1 Q2.1.length c1 a2 Q2.2.length c2), .bool B2]) (ret_pair rfl _ _ w.heap.size _ _ _ _ _ _ _ rfl rfl HBg.out) rfl ⟨_, rfl, ⟨a1, c1, a2, c2, rfl, HY1.out, HY2.out⟩, HW6.out⟩
    · rw [downT_ne n a b hne]
      obtain ⟨x, hx⟩ : ∃ x, x = hashedT n a := ⟨_, rfl⟩
      obtain ⟨y, hy⟩ : ∃ y, y = hashedT n b := ⟨_, rfl⟩
      rw [← hx] at HX hne ⊢
      rw [← hy] at HY hne ⊢
      obtain ⟨X, Y, hX, hY, hXY⟩ := strs_of x y
      have HXs := Lib.hid hX
      have HYs := Lib.hid hY
      have hxx : (X.toList == Y.toList) = false := by rw [hXY]; exact decide_eq_false hne
      clear hX hY hXY ih hva hvb hsa hsb hk hn ha hb hne hx hy
      go_enter Tryd.func62, Tryd.ntmps62
      go_upto_region 1 with fail
      refine world_cut (fun W => PrW w W) HP.out ?_
      clear HP
      intro W1 hW1
      have HW1 := Lib.hid hW1
      clear hW1
      go_wp2_with fail
      refine (HX.out _ HW1.out.2).mono ?_
      rintro e W2 ⟨ux, rfl, hr2, hb2⟩
      have HRx := Lib.hid hr2.bys
      have HW2 := Lib.hid (HW1.out.keep hb2)
      clear hr2 hb2 HX HW1
      go_wp2_with fail
      refine (HY.out _ HW2.out.2).mono ?_
      rintro e W3 ⟨uy, rfl, hr3, hb3⟩
      have HRy := Lib.hid hr3.bys
      have HRx3 := Lib.hid (HRx.out.below (Nat.le_refl _) hb3)
      have HW3 := Lib.hid (HW2.out.keep hb3)
      clear hr3 hb3 HY HW2 HRx
      have c1 := conv_bys HRx3.out
      have c2 := conv_bys HRy.out
      rw [← HXs.out] at c1
      rw [← HYs.out] at c2
      obtain ⟨ax, cx, rfl⟩ := HRx3.out.form
      obtain ⟨ay, cy, rfl⟩ := HRy.out.form
      go_wp2_with (refine wpList_store_row rfl 51 (.tmp 6) (.tmp 26) rfl w.heap.size (prC ax x.length cx ay y.length cy) rfl rfl 51 _ HW3.out.1 (size_pair _ _ _ _ _ _) rfl (pair_one _ _ _ _ _ _) ?_)
      exact bodyPost_ret (v := .tuple #[.agg (prC ax x.length cx ay y.length cy), .bool true]) (ret_pair rfl _ _ w.heap.size _ _ _ _ _ _ _ rfl rfl (Blk.row HW3.out.1 _)) rfl ⟨_, rfl, ⟨ax, cx, ay, cy, rfl, HRx3.out.farP HW3.out.1 (prC_far _ _ _ _ _ _), HRy.out.farP HW3.out.1 (prC_far _ _ _ _ _ _)⟩, below_setRow HW3.out.2 _ _ (Nat.le_refl _)⟩
end Go.Proofs.YtdhfabjkpffhnaaDoor

/- Layer 17's reference: Lists. -/
namespace Go.Proofs.YtdhfabjkpffhnaaDoor
set_option maxRecDepth 20000
open Go.RowKit ShaMath LeafMath ClashMath Reg

set_option maxHeartbeats 1000000 in
set_option maxRecDepth 100000 in
theorem reflists_any (n : Int) (hn : I64 n) (a b : List Bs) (va vb : Value) (w : World) (hva : Txs w va a) (hvb : Txs w vb b) (hsa : Shorts a) (hsb : Shorts b) (hk : Consts w) :
    Calls Tryd.prog 35 #[.int .i64 n, va, vb] w fun e w' => ∃ u, e = .returned (.tuple #[u, .int .i64 ((listsT n a b).2 : Int)]) ∧ PairB w' u (listsT n a b).1 ∧ Below w.heap.size w w' := by
  obtain ⟨pa, ca, rfl, hca⟩ := hva.form
  obtain ⟨pb, cb, rfl, hcb⟩ := hvb.form
  obtain ⟨la, hla⟩ : ∃ la, la = a.length := ⟨_, rfl⟩
  obtain ⟨lb, hlb⟩ : ∃ lb, lb = b.length := ⟨_, rfl⟩
  rw [← hla] at hva hca ⊢
  rw [← hlb] at hvb hcb ⊢
  have ha80 : la ≤ 80 := by rw [hla]; exact hsa.few
  have hb80 : lb ≤ 80 := by rw [hlb]; exact hsb.few
  have HP := Lib.hid (PrW.new w)
  by_cases hl : la = lb
  · subst hl
    have hll : ((la : Int) != (la : Int)) = false := by simp
    obtain ⟨ra, hra, hra32⟩ : ∃ r, r = rootT n a ∧ r.length = 32 := ⟨_, rfl, rootT_length _ _⟩
    obtain ⟨rb, hrb, hrb32⟩ : ∃ r, r = rootT n b ∧ r.length = 32 := ⟨_, rfl, rootT_length _ _⟩
    have HRa := Lib.hid (fun (W : World) (hW : Below w.heap.size w W) => refrootT_any n hn a (.slice pa la ca) W (hva.below (Nat.le_refl _) hW) hsa (hk.below (Nat.le_refl _) hW))
    have HRb := Lib.hid (fun (W : World) (hW : Below w.heap.size w W) => refrootT_any n hn b (.slice pb la cb) W (hvb.below (Nat.le_refl _) hW) hsb (hk.below (Nat.le_refl _) hW))
    rw [← hra] at HRa
    rw [← hrb] at HRb
    by_cases hr : ra = rb
    · subst hr
      have HEq := Lib.hid (fun W => eq_same W ra hra32)
      by_cases h0 : la = 0
      · have e : listsT n a b = (([], []), 8) := by rw [listsT, if_neg (by simp; omega), if_neg (by rw [← hra, ← hrb]; simp), if_pos (by omega)]
        rw [e]
        subst h0
        clear hva hvb hsa hsb hk hn hla hlb hra hra32 hrb hrb32 e
        go_enter Tryd.func35, Tryd.ntmps35
        go_upto_region 1 with fail
        refine world_cut (fun W => PrW w W) HP.out ?_
        clear HP
        intro W1 hW1
        have HW1 := Lib.hid hW1
        clear hW1
        go_wp2_with fail
        refine (HRa.out _ HW1.out.2).mono ?_
        rintro e W2 ⟨rfl, hb2⟩
        have HW2 := Lib.hid (HW1.out.keep hb2)
        clear hb2 HRa HW1
        go_wp2_with fail
        refine (HRb.out _ HW2.out.2).mono ?_
        rintro e W3 ⟨rfl, hb3⟩
        have HW3 := Lib.hid (HW2.out.keep hb3)
        clear hb3 HRb HW2
        have heq := HEq.out
        go_wp2_with (refine wpList_store_row rfl 51 (.tmp 6) (.tmp 36) rfl w.heap.size (prC none 0 0 none 0 0) rfl rfl 51 _ HW3.out.1 (size_pair _ _ _ _ _ _) rfl (pair_one _ _ _ _ _ _) ?_)
        exact bodyPost_ret (v := .tuple #[.agg (prC none 0 0 none 0 0), .int .i64 8]) (ret_pair rfl _ _ w.heap.size _ _ _ _ _ _ _ rfl rfl (Blk.row HW3.out.1 _)) rfl ⟨_, rfl, PairB.none _, below_setRow HW3.out.2 _ _ (Nat.le_refl _)⟩
      · have hgt : (la : Int) > 0 := by omega
        have HD := Lib.hid (fun (W : World) (hW : Below w.heap.size w W) => refdown_any n hn la a b (.slice pa la ca) (.slice pb la cb) W hla.symm hlb.symm (by omega) (hva.below (Nat.le_refl _) hW) (hvb.below (Nat.le_refl _) hW) hsa hsb (hk.below (Nat.le_refl _) hW))
        have el : listsT n a b = (match downT n a b with | some p => (p, 0) | none => (([], []), 8)) := by rw [listsT, if_neg (by simp; omega), if_neg (by rw [← hra, ← hrb]; simp), if_neg (by omega)]; rfl
        rw [el]
        cases hd : downT n a b with
        | some p =>
          rw [hd] at HD
          simp only [Option.isSome_some, Option.getD_some] at HD ⊢
          clear hva hvb hsa hsb hk hn hla hlb hra hra32 hrb hrb32 el hd
          go_enter Tryd.func35, Tryd.ntmps35
          go_upto_region 1 with fail
          refine world_cut (fun W => PrW w W) HP.out ?_
          clear HP
          intro W1 hW1
          have HW1 := Lib.hid hW1
          clear hW1
          go_wp2_with fail
          refine (HRa.out _ HW1.out.2).mono ?_
          rintro e W2 ⟨rfl, hb2⟩
          have HW2 := Lib.hid (HW1.out.keep hb2)
          clear hb2 HRa HW1
          go_wp2_with fail
          refine (HRb.out _ HW2.out.2).mono ?_
          rintro e W3 ⟨rfl, hb3⟩
          have HW3 := Lib.hid (HW2.out.keep hb3)
          clear hb3 HRb HW2
          have heq := HEq.out
          go_wp2_with fail
          clear heq
          refine (HD.out _ HW3.out.2).mono ?_
          rintro e W4 ⟨u, rfl, hp, hb4⟩
          obtain ⟨a1, c1, a2, c2, rfl, hy1, hy2⟩ := hp
          have HW4 := Lib.hid (HW3.out.keep hb4)
          have HY1 := Lib.hid hy1
          have HY2 := Lib.hid hy2
          clear hb4 hy1 hy2 HW3 HD
          go_upto_region 7 with (refine wpList_store_row rfl 51 (.tmp 8) (.tmp 32) rfl W4.heap.size (prC a1 p.1.length c1 a2 p.2.length c2) rfl rfl 51 _ (Blk.new W4 _ _) (size_pair _ _ _ _ _ _) rfl (pair_one _ _ _ _ _ _) ?_)
          refine world_cut (fun W => PrW w W ∧ Blk W W4.heap.size 51 (prC a1 p.1.length c1 a2 p.2.length c2) ∧ Bys W (.slice a1 p.1.length c1) p.1 ∧ Bys W (.slice a2 p.2.length c2) p.2) ⟨HW4.out.keep (below_new W4 _ _ _), Blk.row (Blk.new W4 _ _) _, HY1.out.below (Nat.le_refl _) (below_new W4 _ _ _), HY2.out.below (Nat.le_refl _) (below_new W4 _ _ _)⟩ ?_
          clear HW4 HY1 HY2
          rintro W5 ⟨hW5, hb5, hy1, hy2⟩
          have HW5 := Lib.hid hW5
          have HB5 := Lib.hid hb5
          have HY1 := Lib.hid hy1
          have HY2 := Lib.hid hy2
          clear hW5 hb5 hy1 hy2
          go_wp2_with (first
            | (refine wpList_load_row rfl 51 (.tmp 8) rfl W4.heap.size rfl 51 (prC a1 p.1.length c1 a2 p.2.length c2) (0, 0) _ HB5.out Tryd.underlying51 rfl (size_pair _ _ _ _ _ _) ?_)
            | (refine wpList_store_row rfl 51 (.tmp 6) (.tmp 35) rfl w.heap.size (prC a1 p.1.length c1 a2 p.2.length c2) rfl rfl 51 _ HW5.out.1 (size_pair _ _ _ _ _ _) rfl (pair_one _ _ _ _ _ _) ?_))
          exact bodyPost_ret (v := .tuple #[.agg (prC a1 p.1.length c1 a2 p.2.length c2), .int .i64 0]) (ret_pair rfl _ _ w.heap.size _ _ _ _ _ _ _ rfl rfl (Blk.row HW5.out.1 _)) rfl ⟨_, rfl, ⟨a1, c1, a2, c2, rfl, HY1.out.farP HW5.out.1 (prC_far _ _ _ _ _ _), HY2.out.farP HW5.out.1 (prC_far _ _ _ _ _ _)⟩, below_setRow HW5.out.2 _ _ (Nat.le_refl _)⟩
        | none =>
          rw [hd] at HD
          simp only [Option.isSome_none, Option.getD_none] at HD ⊢
          clear hva hvb hsa hsb hk hn hla hlb hra hra32 hrb hrb32 el hd
          go_enter Tryd.func35, Tryd.ntmps35
          go_upto_region 1 with fail
          refine world_cut (fun W => PrW w W) HP.out ?_
          clear HP
          intro W1 hW1
          have HW1 := Lib.hid hW1
          clear hW1
          go_wp2_with fail
          refine (HRa.out _ HW1.out.2).mono ?_
          rintro e W2 ⟨rfl, hb2⟩
          have HW2 := Lib.hid (HW1.out.keep hb2)
          clear hb2 HRa HW1
          go_wp2_with fail
          refine (HRb.out _ HW2.out.2).mono ?_
          rintro e W3 ⟨rfl, hb3⟩
          have HW3 := Lib.hid (HW2.out.keep hb3)
          clear hb3 HRb HW2
          have heq := HEq.out
          go_wp2_with fail
          clear heq
          refine (HD.out _ HW3.out.2).mono ?_
          rintro e W4 ⟨u, rfl, hp, hb4⟩
          obtain ⟨a1, c1, a2, c2, rfl, hy1, hy2⟩ := hp
          have HW4 := Lib.hid (HW3.out.keep hb4)
          clear hb4 hy1 hy2 HW3 HD
          go_upto_region 7 with (refine wpList_store_row rfl 51 (.tmp 8) (.tmp 32) rfl W4.heap.size (prC a1 0 c1 a2 0 c2) rfl rfl 51 _ (Blk.new W4 _ _) (size_pair _ _ _ _ _ _) rfl (pair_one _ _ _ _ _ _) ?_)
          refine world_cut (fun W => PrW w W) (HW4.out.keep (below_new W4 _ _ _)) ?_
          clear HW4
          intro W5 hW5
          have HW5 := Lib.hid hW5
          clear hW5
          go_wp2_with (refine wpList_store_row rfl 51 (.tmp 6) (.tmp 36) rfl w.heap.size (prC none 0 0 none 0 0) rfl rfl 51 _ HW5.out.1 (size_pair _ _ _ _ _ _) rfl (pair_one _ _ _ _ _ _) ?_)
          exact bodyPost_ret (v := .tuple #[.agg (prC none 0 0 none 0 0), .int .i64 8]) (ret_pair rfl _ _ w.heap.size _ _ _ _ _ _ _ rfl rfl (Blk.row HW5.out.1 _)) rfl ⟨_, rfl, PairB.none _, below_setRow HW5.out.2 _ _ (Nat.le_refl _)⟩
    · have e : listsT n a b = (([], []), 3) := by rw [listsT, if_neg (by simp; omega), if_pos (by rw [← hra, ← hrb]; exact hr)]
      rw [e]
      have HEq := Lib.hid (fun W => by have h := eq_hash W ra rb hra32 hrb32; rwa [show (ra == rb) = false from beq_false_of_ne hr] at h)
      clear hva hvb hsa hsb hk hn hla hlb hra hra32 hrb hrb32 e hr
      go_enter Tryd.func35, Tryd.ntmps35
      go_upto_region 1 with fail
      refine world_cut (fun W => PrW w W) HP.out ?_
      clear HP
      intro W1 hW1
      have HW1 := Lib.hid hW1
      clear hW1
      go_wp2_with fail
      refine (HRa.out _ HW1.out.2).mono ?_
      rintro e W2 ⟨rfl, hb2⟩
      have HW2 := Lib.hid (HW1.out.keep hb2)
      clear hb2 HRa HW1
      go_wp2_with fail
      refine (HRb.out _ HW2.out.2).mono ?_
      rintro e W3 ⟨rfl, hb3⟩
      have HW3 := Lib.hid (HW2.out.keep hb3)
      clear hb3 HRb HW2
      have heq := HEq.out
      go_wp2_with (refine wpList_store_row rfl 51 (.tmp 6) (.tmp 23) rfl w.heap.size (prC none 0 0 none 0 0) rfl rfl 51 _ HW3.out.1 (size_pair _ _ _ _ _ _) rfl (pair_one _ _ _ _ _ _) ?_)
      exact bodyPost_ret (v := .tuple #[.agg (prC none 0 0 none 0 0), .int .i64 3]) (ret_pair rfl _ _ w.heap.size _ _ _ _ _ _ _ rfl rfl (Blk.row HW3.out.1 _)) rfl ⟨_, rfl, PairB.none _, below_setRow HW3.out.2 _ _ (Nat.le_refl _)⟩
  · have e : listsT n a b = (([], []), 9) := by rw [listsT, if_pos (by rw [← hla, ← hlb]; exact hl)]
    rw [e]
    have hll : ((la : Int) != (lb : Int)) = true := by simp; omega
    clear hva hvb hsa hsb hk hn hla hlb e
    go_enter Tryd.func35, Tryd.ntmps35
    go_upto_region 1 with fail
    refine world_cut (fun W => PrW w W) HP.out ?_
    clear HP
    intro W1 hW1
    have HW1 := Lib.hid hW1
    clear hW1
    go_wp2_with (refine wpList_store_row rfl 51 (.tmp 6) (.tmp 15) rfl w.heap.size (prC none 0 0 none 0 0) rfl rfl 51 _ HW1.out.1 (size_pair _ _ _ _ _ _) rfl (pair_one _ _ _ _ _ _) ?_)
    exact bodyPost_ret (v := .tuple #[.agg (prC none 0 0 none 0 0), .int .i64 9]) (ret_pair rfl _ _ w.heap.size _ _ _ _ _ _ _ rfl rfl (Blk.row HW1.out.1 _)) rfl ⟨_, rfl, PairB.none _, below_setRow HW1.out.2 _ _ (Nat.le_refl _)⟩
end Go.Proofs.YtdhfabjkpffhnaaDoor

/- Layer 17's reference: newer. -/
namespace Go.Proofs.YtdhfabjkpffhnaaDoor
set_option maxRecDepth 20000
open Go.RowKit ShaMath LeafMath PathMath GrowthMath ClashMath Reg

set_option maxHeartbeats 2000000 in
set_option maxRecDepth 100000 in
theorem refnewer_any (n : Int) (hn : I64 n) : ∀ (M m : Nat) (old : Bool) (h : Hs) (ps : List Hs) (v : Value) (w : World), h.length = 32 → 1 ≤ m → m ≤ M → M < 18446744073709551616 → Hss w v ps → ps.length = sizeG m M old → Consts w →
    Calls Tryd.prog 72 #[.int .i64 n, .int .u64 (m : Int), .int .u64 (M : Int), .agg (bs h), v, .bool old] w fun e w' => e = .returned (.agg (bs (newerT n m M h ps old))) ∧ Below w.heap.size w w' := by
  intro M
  induction M using Nat.strongRecOn with
  | ind M ih =>
    intro m old h ps v w hh hm1 hmM hM hv hl hk
    have HP := Lib.hid (UpW.new w h)
    have HSh := Lib.hid (size_hash (cs := bs h) (by rw [bs_size, hh]))
    have Hh := Lib.hid hh
    by_cases he : m = M
    · subst he
      rw [sizeG_all] at hl
      cases old with
      | true =>
        rw [show newerT n m m h ps true = h by rw [newerT, showG_all]; rfl]
        obtain ⟨a, c, rfl, _⟩ := hv.form
        clear ih hh hv hl hk hmM
        go_enter Tryd.func72, Tryd.ntmps72
        go_upto_region 1 with fail
        refine world_cut (fun W => UpW w h W) HP.out ?_
        clear HP
        intro W1 hW1
        obtain ⟨b0, ⟨zs, hz1, hz2⟩, hb⟩ := hW1
        have B0 := Lib.hid b0
        have HZ := Lib.hid hz1
        have HZs := Lib.hid hz2
        have HB := Lib.hid hb
        clear b0 hz1 hz2 hb
        go_wp2_with (first
          | (refine wpList_load_row rfl 24 (.tmp 9) rfl w.heap.size rfl 24 (bs h) (0, 0) _ B0.out Tryd.underlying24 rfl HSh.out ?_)
          | (refine wpList_store_row rfl 24 (.tmp 12) (.tmp 19) rfl (w.heap.size + 1) (bs h) rfl rfl 24 _ HZ.out HSh.out (by rw [bs_size, Hh.out, HZs.out]) (bs_one _) ?_))
        exact bodyPost_ret (v := .agg (bs h)) (results_cell_row rfl _ _ (w.heap.size + 1) 24 (bs h) (0, 0) _ rfl (Blk.row HZ.out (bs h)) Tryd.underlying24 rfl HSh.out) rfl ⟨rfl, below_setRow HB.out _ _ (by omega)⟩
      | false =>
        obtain ⟨x, rfl⟩ : ∃ x, ps = [x] := by
          match ps, hl with
          | [x], _ => exact ⟨x, rfl⟩
          | [], hl => simp at hl
          | _ :: _ :: _, hl => simp at hl
        rw [show newerT n m m h [x] false = x by rw [newerT, showG_all]; rfl]
        have hx32 := hv.all x (by simp)
        have HSx := Lib.hid (size_hash (cs := bs x) (by rw [bs_size, hx32]))
        have Hx := Lib.hid hx32
        obtain ⟨a, c, rfl, _⟩ := hv.form
        have HLd := Lib.hid (fun (W : World) (hW : Below w.heap.size w W) => by
          obtain ⟨ad, e, hc⟩ := (hv.below (Nat.le_refl _) hW).load (i := 0) (x := x) rfl
          rw [show ad.add (0 * 32) = ad by simp [Addr.add]] at hc
          exact (⟨ad, e, load_hash W ad x hx32 hc⟩ : ∃ ad, a = some ad ∧ (Instr.loadAt 24 (.pointer (some ad))).run Tryd.prog W = .ok (.agg (bs x)) W))
        obtain ⟨pad, rfl, _⟩ := HLd.out w (Below.refl _ _)
        have HLd2 := Lib.hid (fun (W : World) (hW : Below w.heap.size w W) => show (Instr.loadAt 24 (.pointer (some pad))).run Tryd.prog W = .ok (.agg (bs x)) W by
          obtain ⟨ad, e, hc⟩ := HLd.out W hW
          cases e
          exact hc)
        simp only [List.length_singleton] at *
        clear ih hh hv hl hk hmM hx32 HLd
        go_enter Tryd.func72, Tryd.ntmps72
        go_upto_region 1 with fail
        refine world_cut (fun W => UpW w h W) HP.out ?_
        clear HP
        intro W1 hW1
        obtain ⟨b0, ⟨zs, hz1, hz2⟩, hb⟩ := hW1
        have B0 := Lib.hid b0
        have HZ := Lib.hid hz1
        have HZs := Lib.hid hz2
        have HB := Lib.hid hb
        clear b0 hz1 hz2 hb
        go_wp2_with (first
          | (refine wpList_load_by rfl 24 (.tmp 21) rfl _ _ rfl (HLd2.out _ HB.out) ?_)
          | (refine wpList_store_row rfl 24 (.tmp 12) (.tmp 22) rfl (w.heap.size + 1) (bs x) rfl rfl 24 _ HZ.out HSx.out (by rw [bs_size, Hx.out, HZs.out]) (bs_one _) ?_))
        exact bodyPost_ret (v := .agg (bs x)) (results_cell_row rfl _ _ (w.heap.size + 1) 24 (bs x) (0, 0) _ rfl (Blk.row HZ.out (bs x)) Tryd.underlying24 rfl HSx.out) rfl ⟨rfl, below_setRow HB.out _ _ (by omega)⟩
    · have hmlt : m < M := by omega
      have h2 : 2 ≤ M := by omega
      have hlt := splitN_lt h2
      have hp0 := splitN_pos M
      obtain ⟨k, hk2⟩ : ∃ k, k = splitN M := ⟨_, rfl⟩
      have HSplit := Lib.hid (fun W => refsplit15_any M W (by omega) hM)
      rw [← hk2] at HSplit hlt hp0
      have hne : ¬ (m : Int) = (M : Int) := by omega
      obtain ⟨p, hp⟩ : ∃ p, p = ps.length := ⟨_, rfl⟩
      have hpos : 0 < p := by
        by_cases hik : m ≤ splitN M
        · rw [hp, hl, sizeG_left old hmlt h2 hik]; omega
        · rw [hp, hl, sizeG_right old hmlt h2 hik]; omega
      have hp65 : p ≤ 65 := by rw [hp, hl]; exact sizeG_65 m M old hmM hM
      obtain ⟨z, hz⟩ : ∃ z : Nat, (p : Int) - 1 = (z : Int) := ⟨p - 1, by omega⟩
      have hzp : z + 1 = p := by omega
      obtain ⟨y, hy⟩ : ∃ y, ps[z]? = some y := ⟨ps[z]'(by omega), List.getElem?_eq_getElem _⟩
      have hlast : ps.getLastD [] = y := by
        obtain ⟨q, x, rfl⟩ : ∃ q x, ps = q ++ [x] := by
          have hne : ps ≠ [] := fun e => by rw [e] at hp; simp at hp; omega
          exact ⟨ps.dropLast, ps.getLast hne, (List.dropLast_concat_getLast hne).symm⟩
        have hzq : z = q.length := by simp at hp; omega
        rw [hzq] at hy
        simp at hy
        simp [hy]
      have hdl : ps.dropLast = ps.take z := by rw [List.dropLast_eq_take, ← hp]; congr 1; omega
      obtain ⟨pad, hpad, hcy⟩ : ∃ pad pc, v = .slice (some pad) p pc ∧ p ≤ pc := by
        obtain ⟨a, c, e, hc⟩ := hv.form
        rw [← hp] at e hc
        subst e
        obtain ⟨ad, rfl, _⟩ := hv.load hy
        exact ⟨ad, c, rfl, hc⟩
      obtain ⟨rfl, hpc⟩ := hcy
      obtain ⟨pc, hpcc⟩ : ∃ c, c = hpad := ⟨_, rfl⟩
      rw [← hpcc] at hv hpc ⊢
      clear hpcc
      have hy32 := hv.all.get hy
      have hv2 : Hss w (.slice (some pad) z pc) ps.dropLast := by
        have := hv.sub 0 z (by omega) (by omega)
        rw [sliced_zero2] at this
        rw [hdl]
        simpa using this
      have HLd := Lib.hid (fun (W : World) (hW : Below w.heap.size w W) => load_hash W (pad.add (z * 32)) y hy32 fun j u hj => by
        obtain ⟨ad2, e, h⟩ := (hv.below (Nat.le_refl _) hW).load hy
        cases e
        exact h j u hj)
      have HIx := Lib.hid (fun W => hss_index W pad p pc z (by omega))
      have HSl := Lib.hid (fun (W : World) => show (Instr.sliceAt 30 (.slice (some pad) p pc) none (some (.int .i64 (z : Int))) none).run Tryd.prog W = .ok (.slice (some pad) z pc) W by
        have h := slice_hs_to (some pad) p pc z (by omega) W
        rwa [sliced_zero2] at h)
      have hG : ∀ W W' : World, UpW w h W → Below W.heap.size W W' → UpW w h W' := fun W W' h h' => h.keep h'
      by_cases hik : m ≤ k
      · have hs := sizeG_left old hmlt h2 (by rw [← hk2]; exact hik)
        rw [← hk2] at hs
        have hl2 : ps.dropLast.length = sizeG m k old := by rw [List.length_dropLast, hl, hs]; rfl
        obtain ⟨U, hU, hU32⟩ : ∃ U, U = newerT n m k h ps.dropLast old ∧ U.length = 32 := ⟨_, rfl, newerT_length n m k h _ old hh (dropLast_32 hv.all) hik hl2⟩
        obtain ⟨R, hR, hR32⟩ : ∃ R, R = newerT n m M h ps old ∧ R.length = 32 := ⟨_, rfl, newerT_length n m M h _ old hh hv.all hmM hl⟩
        have hnode : nodeH n U y = R := by rw [hR, newerT, showG_left n h ps old hmlt h2 (by rw [← hk2]; exact hik), hU, hlast, ← hk2]; rfl
        have HUp := Lib.hid (fun (W : World) (hW : Below w.heap.size w W) => ih k hlt m old h ps.dropLast (.slice (some pad) z pc) W hh hm1 hik (by omega) (hv2.below (Nat.le_refl _) hW) hl2 (hk.below (Nat.le_refl _) hW))
        have HNode := Lib.hid (fun (W : World) (hW : Below w.heap.size w W) => refnode_any n U y W hU32 hy32 hn (hk.below (Nat.le_refl _) hW))
        rw [← hU] at HUp
        rw [hnode] at HNode
        rw [← hR]
        have HSR := Lib.hid (size_hash (cs := bs R) (by rw [bs_size, hR32]))
        have HR32 := Lib.hid hR32
        have hik2 : decide ((m : Int) ≤ (k : Int)) = true := decide_eq_true (by omega)
        clear ih hh hv hl hk hs hU hU32 hR hR32 hnode hlast hdl hy hy32 hv2 hp hk2 hl2
        go_enter Tryd.func72, Tryd.ntmps72
        go_upto_region 1 with fail
        refine world_cut (fun W => UpW w h W) HP.out ?_
        clear HP
        intro W1 hW1
        have HW1 := Lib.hid hW1
        clear hW1
        go_wp2_with fail
        refine (HSplit.out _).mono ?_
        rintro e W2 ⟨rfl, rfl⟩
        go_upto_region 8 with fail
        refine region_tail_by 15 _ [(31, .is (.int .i64 n)), (32, .is (.int .i64 n)), (33, .is (.int .u64 (m : Int))), (34, .is (.int .u64 (k : Int))), (35, .is (.agg (bs h))), (36, .is (.slice (some pad) p pc)), (37, .is (.int .i64 (z : Int))), (38, .is (.slice (some pad) z pc)), (39, .is (.bool old)), (40, .is (.agg (bs U))), (41, .is (.slice (some pad) p pc)), (42, .is (.int .i64 (z : Int))), (43, .is (.pointer (some (pad.add (z * 32))))), (44, .is (.agg (bs y))), (45, .is (.agg (bs R)))] [12, 45] (fun W => UpW w h W) (by kernel_rfl) (by kernel_rfl) (by kernel_rfl) (by kernel_rfl) (by kernel_rfl) rfl rfl rfl rfl (by kernel_rfl) (hG _ _ HW1.out (Below.refl _ _).drew) ?_ ?_
        · refine ⟨?c0, ?c1, ?c2, ?c3, ?c4, ?c5, ?c6, ?c7, ?c8, ?c9, ?c10, ?c11, ?c12, ?c13, ?c14, trivial⟩
          case c0 => exact ask_copy (guard_none rfl) (.tmp 0) (.inl rfl) (by intro k hk; cases hk; rfl)
          case c1 => exact ask_copy (guard_none rfl) (.tmp 0) (.inl rfl) (by intro k hk; cases hk; rfl)
          case c2 => exact ask_copy (guard_none rfl) (.tmp 1) (.inl rfl) (by intro k hk; cases hk; rfl)
          case c3 => exact ask_copy (guard_none rfl) (.tmp 13) (.inl rfl) (by intro k hk; cases hk; rfl)
          case c4 => exact ask_load (guard_none rfl) _ (.tmp 9) (.pointer (some ⟨w.heap.size, 0, none⟩)) (.agg (bs h)) rfl rfl (by intro k hk; cases hk; rfl) (fun W hW => hW.1.loads 24 _ Tryd.underlying24 rfl HSh.out)
          case c5 => exact ask_copy (guard_none rfl) (.tmp 4) (.inl rfl) (by intro k hk; cases hk; rfl)
          case c6 => exact ask_copy (guard_none rfl) (.tmp 14) (.inl rfl) (by intro k hk; cases hk; rfl)
          case c7 => exact ask_slice (guard_none rfl) _ (.tmp 36) none (some (.tmp 37)) none (.slice (some pad) p pc) (.slice (some pad) z pc) none (some (.int .i64 (z : Int))) none rfl rfl rfl rfl rfl (by intro k hk; cases hk; rfl) (HSl.out)
          case c8 => exact ask_copy (guard_none rfl) (.tmp 5) (.inl rfl) (by intro k hk; cases hk; rfl)
          case c9 => exact ask_call hG (guard_none rfl) _ _ _ #[.int .i64 n, .int .u64 (m : Int), .int .u64 (k : Int), .agg (bs h), .slice (some pad) z pc, .bool old] (.is (.agg (bs U))) rfl (by kernel_rfl) rfl rfl (by intro k hk; cases hk; rfl) (fun W hW => (HUp.out W hW.2.2).mono fun e w' h => ⟨_, h.1, rfl, h.2⟩)
          case c10 => exact ask_copy (guard_none rfl) (.tmp 4) (.inl rfl) (by intro k hk; cases hk; rfl)
          case c11 => exact ask_copy (guard_none rfl) (.tmp 14) (.inl rfl) (by intro k hk; cases hk; rfl)
          case c12 => exact ask_idx (guard_none rfl) _ (.tmp 41) (.tmp 42) (.slice (some pad) p pc) (.int .i64 (z : Int)) (.pointer (some (pad.add (z * 32)))) rfl rfl rfl (by intro k hk; cases hk; rfl) HIx.out
          case c13 => exact ask_load (guard_none rfl) _ (.tmp 43) (.pointer (some (pad.add (z * 32)))) (.agg (bs y)) rfl rfl (by intro k hk; cases hk; rfl) (fun W hW => HLd.out W hW.2.2)
          case c14 => exact ask_call hG (guard_none rfl) _ _ _ #[.int .i64 n, .agg (bs U), .agg (bs y)] (.is (.agg (bs R))) rfl (by kernel_rfl) rfl rfl (by intro k hk; cases hk; rfl) (fun W hW => (HNode.out W hW.2.2).mono fun e w' h => ⟨_, h.1, rfl, h.2⟩)
        · intro a' W hW hd' hs' hf'
          have t12 : a'.tmps.getD 12 undef = .pointer (some ⟨w.heap.size + 1, 0, none⟩) := hf' 12 rfl
          have t45 : a'.tmps.getD 45 undef = .agg (bs R) := hf' 45 rfl
          obtain ⟨us', hus, ha'⟩ := act_open 64 a' hs' hd'
          rw [← hus] at t12 t45
          have el : ((List.range 64).map us').toArray = #[us' 0, us' 1, us' 2, us' 3, us' 4, us' 5, us' 6, us' 7, us' 8, us' 9, us' 10, us' 11, .pointer (some ⟨w.heap.size + 1, 0, none⟩), us' 13, us' 14, us' 15, us' 16, us' 17, us' 18, us' 19, us' 20, us' 21, us' 22, us' 23, us' 24, us' 25, us' 26, us' 27, us' 28, us' 29, us' 30, us' 31, us' 32, us' 33, us' 34, us' 35, us' 36, us' 37, us' 38, us' 39, us' 40, us' 41, us' 42, us' 43, us' 44, .agg (bs R), us' 46, us' 47, us' 48, us' 49, us' 50, us' 51, us' 52, us' 53, us' 54, us' 55, us' 56, us' 57, us' 58, us' 59, us' 60, us' 61, us' 62, us' 63] := by
            show #[us' 0, us' 1, us' 2, us' 3, us' 4, us' 5, us' 6, us' 7, us' 8, us' 9, us' 10, us' 11, us' 12, us' 13, us' 14, us' 15, us' 16, us' 17, us' 18, us' 19, us' 20, us' 21, us' 22, us' 23, us' 24, us' 25, us' 26, us' 27, us' 28, us' 29, us' 30, us' 31, us' 32, us' 33, us' 34, us' 35, us' 36, us' 37, us' 38, us' 39, us' 40, us' 41, us' 42, us' 43, us' 44, us' 45, us' 46, us' 47, us' 48, us' 49, us' 50, us' 51, us' 52, us' 53, us' 54, us' 55, us' 56, us' 57, us' 58, us' 59, us' 60, us' 61, us' 62, us' 63] = _
            rw [t12, t45]
          rw [el] at ha'
          subst ha'
          clear hus t12 t45 el hf' hs' hd'
          obtain ⟨-, ⟨zs, hz1, hz2⟩, hB5⟩ := hW
          have HZ := Lib.hid hz1
          have HZs := Lib.hid hz2
          have HB5 := Lib.hid hB5
          clear hz1 hz2 hB5 hG
          go_wp2_with (refine wpList_store_row rfl 24 (.tmp 12) (.tmp 45) rfl (w.heap.size + 1) (bs R) rfl rfl 24 _ HZ.out HSR.out (by rw [bs_size, HR32.out, HZs.out]) (bs_one _) ?_)
          exact bodyPost_ret (v := .agg (bs R)) (results_cell_row rfl _ _ (w.heap.size + 1) 24 (bs R) (0, 0) _ rfl (Blk.row HZ.out (bs R)) Tryd.underlying24 rfl HSR.out) rfl ⟨rfl, below_setRow HB5.out _ _ (by omega)⟩
      · have hs := sizeG_right old hmlt h2 (by rw [← hk2]; exact hik)
        rw [← hk2] at hs
        obtain ⟨m2, hi2⟩ : ∃ m2 : Nat, (m : Int) - (k : Int) = (m2 : Int) := ⟨m - k, by omega⟩
        obtain ⟨M2, hm2⟩ : ∃ M2 : Nat, (M : Int) - (k : Int) = (M2 : Int) := ⟨M - k, by omega⟩
        have ei : m - k = m2 := by omega
        have em : M - k = M2 := by omega
        rw [ei, em] at hs
        have hl2 : ps.dropLast.length = sizeG m2 M2 false := by rw [List.length_dropLast, hl, hs]; rfl
        obtain ⟨U, hU, hU32⟩ : ∃ U, U = newerT n m2 M2 h ps.dropLast false ∧ U.length = 32 := ⟨_, rfl, newerT_length n m2 M2 h _ false hh (dropLast_32 hv.all) (by omega) hl2⟩
        obtain ⟨R, hR, hR32⟩ : ∃ R, R = newerT n m M h ps old ∧ R.length = 32 := ⟨_, rfl, newerT_length n m M h _ old hh hv.all hmM hl⟩
        have hnode : nodeH n y U = R := by rw [hR, newerT, showG_right n h ps old hmlt h2 (by rw [← hk2]; exact hik), hU, hlast, ← ei, ← em, ← hk2]; rfl
        have hm2b : m2 < 18446744073709551616 := by omega
        have hM2b : M2 < 18446744073709551616 := by omega
        have HUp := Lib.hid (fun (W : World) (hW : Below w.heap.size w W) => ih M2 (by omega) m2 false h ps.dropLast (.slice (some pad) z pc) W hh (by omega) (by omega) hM2b (hv2.below (Nat.le_refl _) hW) hl2 (hk.below (Nat.le_refl _) hW))
        have HNode := Lib.hid (fun (W : World) (hW : Below w.heap.size w W) => refnode_any n y U W hy32 hU32 hn (hk.below (Nat.le_refl _) hW))
        rw [← hU] at HUp
        rw [hnode] at HNode
        rw [← hR]
        have HSR := Lib.hid (size_hash (cs := bs R) (by rw [bs_size, hR32]))
        have HR32 := Lib.hid hR32
        have HI2 := Lib.hid hi2
        have HM2 := Lib.hid hm2
        have hik2 : decide ((m : Int) ≤ (k : Int)) = false := decide_eq_false (by omega)
        clear ih hh hv hl hk hs hU hU32 hR hR32 hnode hlast hdl hy hy32 hv2 hp hk2 hl2 ei em hi2 hm2
        go_enter Tryd.func72, Tryd.ntmps72
        go_upto_region 1 with fail
        refine world_cut (fun W => UpW w h W) HP.out ?_
        clear HP
        intro W1 hW1
        have HW1 := Lib.hid hW1
        clear hW1
        go_wp2_with fail
        refine (HSplit.out _).mono ?_
        rintro e W2 ⟨rfl, rfl⟩
        go_upto_region 9 with fail
        refine region_tail_by 18 _ [(46, .is (.int .i64 n)), (47, .is (.slice (some pad) p pc)), (48, .is (.int .i64 (z : Int))), (49, .is (.pointer (some (pad.add (z * 32))))), (50, .is (.agg (bs y))), (51, .is (.int .i64 n)), (52, .is (.int .u64 (m : Int))), (53, .is (.int .u64 (k : Int))), (54, .is (.int .u64 (m2 : Int))), (55, .is (.int .u64 (M : Int))), (56, .is (.int .u64 (k : Int))), (57, .is (.int .u64 (M2 : Int))), (58, .is (.agg (bs h))), (59, .is (.slice (some pad) p pc)), (60, .is (.int .i64 (z : Int))), (61, .is (.slice (some pad) z pc)), (62, .is (.agg (bs U))), (63, .is (.agg (bs R)))] [12, 63] (fun W => UpW w h W) (by kernel_rfl) (by kernel_rfl) (by kernel_rfl) (by kernel_rfl) (by kernel_rfl) rfl rfl rfl rfl (by kernel_rfl) (hG _ _ HW1.out (Below.refl _ _).drew) ?_ ?_
        · refine ⟨?c0, ?c1, ?c2, ?c3, ?c4, ?c5, ?c6, ?c7, ?c8, ?c9, ?c10, ?c11, ?c12, ?c13, ?c14, ?c15, ?c16, ?c17, trivial⟩
          case c0 => exact ask_copy (guard_none rfl) (.tmp 0) (.inl rfl) (by intro k hk; cases hk; rfl)
          case c1 => exact ask_copy (guard_none rfl) (.tmp 4) (.inl rfl) (by intro k hk; cases hk; rfl)
          case c2 => exact ask_copy (guard_none rfl) (.tmp 14) (.inl rfl) (by intro k hk; cases hk; rfl)
          case c3 => exact ask_idx (guard_none rfl) _ (.tmp 47) (.tmp 48) (.slice (some pad) p pc) (.int .i64 (z : Int)) (.pointer (some (pad.add (z * 32)))) rfl rfl rfl (by intro k hk; cases hk; rfl) HIx.out
          case c4 => exact ask_load (guard_none rfl) _ (.tmp 49) (.pointer (some (pad.add (z * 32)))) (.agg (bs y)) rfl rfl (by intro k hk; cases hk; rfl) (fun W hW => HLd.out W hW.2.2)
          case c5 => exact ask_copy (guard_none rfl) (.tmp 0) (.inl rfl) (by intro k hk; cases hk; rfl)
          case c6 => exact ask_copy (guard_none rfl) (.tmp 1) (.inl rfl) (by intro k hk; cases hk; rfl)
          case c7 => exact ask_copy (guard_none rfl) (.tmp 13) (.inl rfl) (by intro k hk; cases hk; rfl)
          case c8 => exact ask_bin (guard_none rfl) .sub _ _ (.tmp 52) (.tmp 53) (.int .u64 (m : Int)) (.int .u64 (k : Int)) (.int .u64 (m2 : Int)) rfl rfl rfl (by intro k hk; cases hk; rfl) (fun W => sub_u64 _ _ _ _ _ _ HI2.out (by omega) W)
          case c9 => exact ask_copy (guard_none rfl) (.tmp 2) (.inl rfl) (by intro k hk; cases hk; rfl)
          case c10 => exact ask_copy (guard_none rfl) (.tmp 13) (.inl rfl) (by intro k hk; cases hk; rfl)
          case c11 => exact ask_bin (guard_none rfl) .sub _ _ (.tmp 55) (.tmp 56) (.int .u64 (M : Int)) (.int .u64 (k : Int)) (.int .u64 (M2 : Int)) rfl rfl rfl (by intro k hk; cases hk; rfl) (fun W => sub_u64 _ _ _ _ _ _ HM2.out (by omega) W)
          case c12 => exact ask_load (guard_none rfl) _ (.tmp 9) (.pointer (some ⟨w.heap.size, 0, none⟩)) (.agg (bs h)) rfl rfl (by intro k hk; cases hk; rfl) (fun W hW => hW.1.loads 24 _ Tryd.underlying24 rfl HSh.out)
          case c13 => exact ask_copy (guard_none rfl) (.tmp 4) (.inl rfl) (by intro k hk; cases hk; rfl)
          case c14 => exact ask_copy (guard_none rfl) (.tmp 14) (.inl rfl) (by intro k hk; cases hk; rfl)
          case c15 => exact ask_slice (guard_none rfl) _ (.tmp 59) none (some (.tmp 60)) none (.slice (some pad) p pc) (.slice (some pad) z pc) none (some (.int .i64 (z : Int))) none rfl rfl rfl rfl rfl (by intro k hk; cases hk; rfl) (HSl.out)
          case c16 => exact ask_call hG (guard_none rfl) _ _ _ #[.int .i64 n, .int .u64 (m2 : Int), .int .u64 (M2 : Int), .agg (bs h), .slice (some pad) z pc, .bool false] (.is (.agg (bs U))) rfl (by kernel_rfl) rfl rfl (by intro k hk; cases hk; rfl) (fun W hW => (HUp.out W hW.2.2).mono fun e w' h => ⟨_, h.1, rfl, h.2⟩)
          case c17 => exact ask_call hG (guard_none rfl) _ _ _ #[.int .i64 n, .agg (bs y), .agg (bs U)] (.is (.agg (bs R))) rfl (by kernel_rfl) rfl rfl (by intro k hk; cases hk; rfl) (fun W hW => (HNode.out W hW.2.2).mono fun e w' h => ⟨_, h.1, rfl, h.2⟩)
        · intro a' W hW hd' hs' hf'
          have t12 : a'.tmps.getD 12 undef = .pointer (some ⟨w.heap.size + 1, 0, none⟩) := hf' 12 rfl
          have t63 : a'.tmps.getD 63 undef = .agg (bs R) := hf' 63 rfl
          obtain ⟨us', hus, ha'⟩ := act_open 64 a' hs' hd'
          rw [← hus] at t12 t63
          have el : ((List.range 64).map us').toArray = #[us' 0, us' 1, us' 2, us' 3, us' 4, us' 5, us' 6, us' 7, us' 8, us' 9, us' 10, us' 11, .pointer (some ⟨w.heap.size + 1, 0, none⟩), us' 13, us' 14, us' 15, us' 16, us' 17, us' 18, us' 19, us' 20, us' 21, us' 22, us' 23, us' 24, us' 25, us' 26, us' 27, us' 28, us' 29, us' 30, us' 31, us' 32, us' 33, us' 34, us' 35, us' 36, us' 37, us' 38, us' 39, us' 40, us' 41, us' 42, us' 43, us' 44, us' 45, us' 46, us' 47, us' 48, us' 49, us' 50, us' 51, us' 52, us' 53, us' 54, us' 55, us' 56, us' 57, us' 58, us' 59, us' 60, us' 61, us' 62, .agg (bs R)] := by
            show #[us' 0, us' 1, us' 2, us' 3, us' 4, us' 5, us' 6, us' 7, us' 8, us' 9, us' 10, us' 11, us' 12, us' 13, us' 14, us' 15, us' 16, us' 17, us' 18, us' 19, us' 20, us' 21, us' 22, us' 23, us' 24, us' 25, us' 26, us' 27, us' 28, us' 29, us' 30, us' 31, us' 32, us' 33, us' 34, us' 35, us' 36, us' 37, us' 38, us' 39, us' 40, us' 41, us' 42, us' 43, us' 44, us' 45, us' 46, us' 47, us' 48, us' 49, us' 50, us' 51, us' 52, us' 53, us' 54, us' 55, us' 56, us' 57, us' 58, us' 59, us' 60, us' 61, us' 62, us' 63] = _
            rw [t12, t63]
          rw [el] at ha'
          subst ha'
          clear hus t12 t63 el hf' hs' hd'
          obtain ⟨-, ⟨zs, hz1, hz2⟩, hB5⟩ := hW
          have HZ := Lib.hid hz1
          have HZs := Lib.hid hz2
          have HB5 := Lib.hid hB5
          clear hz1 hz2 hB5 hG
          go_wp2_with (refine wpList_store_row rfl 24 (.tmp 12) (.tmp 63) rfl (w.heap.size + 1) (bs R) rfl rfl 24 _ HZ.out HSR.out (by rw [bs_size, HR32.out, HZs.out]) (bs_one _) ?_)
          exact bodyPost_ret (v := .agg (bs R)) (results_cell_row rfl _ _ (w.heap.size + 1) 24 (bs R) (0, 0) _ rfl (Blk.row HZ.out (bs R)) Tryd.underlying24 rfl HSR.out) rfl ⟨rfl, below_setRow HB5.out _ _ (by omega)⟩
end Go.Proofs.YtdhfabjkpffhnaaDoor

