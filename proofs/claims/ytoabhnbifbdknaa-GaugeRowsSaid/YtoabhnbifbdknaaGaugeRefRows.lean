/- The reference's Rows, by insertion. -/
import Derived.Test.YtoabhnbifbdknaaGaugeRefAhead
namespace Go.Proofs.Ytoabhnbifbdknaa
open Go.RowKit EdgeMath Reg

/-- A list into which one is put: a hole at k that holds c. -/
def cu (P : List Nat) (k c : Nat) : List Nat := P.take k ++ c :: P.drop k

theorem cu_length {P : List Nat} {k c : Nat} (h : k ≤ P.length) : (cu P k c).length = P.length + 1 := by
  unfold cu
  rw [List.length_append, List.length_take, List.length_cons, List.length_drop]
  omega
theorem cu_end (P : List Nat) (c : Nat) : P ++ [c] = cu P P.length c := by unfold cu; simp
theorem cu_at {P : List Nat} {k c : Nat} (h : k + 1 ≤ P.length) : (cu P (k + 1) c)[k]? = some (P[k]'(by omega)) := by
  unfold cu
  rw [List.getElem?_append_left (by rw [List.length_take]; omega), List.getElem?_take, if_pos (by omega), List.getElem?_eq_getElem (by omega)]
theorem cu_set {P : List Nat} {k c x : Nat} (h : k ≤ P.length) : (cu P k c).set k x = cu P k x := by
  unfold cu
  rw [List.set_append_right _ _ (by rw [List.length_take]; omega), List.length_take, Nat.min_eq_left h, Nat.sub_self, List.set_cons_zero]
theorem cu_step {P : List Nat} {k : Nat} (h : k + 1 ≤ P.length) : cu P (k + 1) (P[k]'(by omega)) = cu P k (P[k]'(by omega)) := by
  unfold cu
  rw [List.take_succ_eq_append_getElem (by omega), List.append_assoc]
  congr 1
  rw [List.drop_eq_getElem_cons (i := k) (by omega)]
  rfl

theorem placed_lt {ms : List G} {n : Nat} {P : List Nat} (h : Placed ms n P) : P.length = n ∧ ∀ b ∈ P, b < n :=
  ⟨by rw [h.1.length_eq, List.length_range], fun b hb => List.mem_range.1 (h.1.mem_iff.1 hb)⟩

def gd (ms : List G) (b : Nat) : G := ms.getD b G.none

theorem placed_insert {ms : List G} {i k : Nat} {P : List Nat} (hP : Placed ms i P) (hk : k ≤ i) (h1 : ∀ b ∈ P.drop k, AheadP (gd ms i) (gd ms b)) (h2 : ∀ j (hj : j < P.length), k = j + 1 → ¬ AheadP (gd ms i) (gd ms P[j])) : Placed ms (i + 1) (cu P k i) := by
  obtain ⟨hl, hm⟩ := placed_lt hP
  constructor
  · unfold cu
    refine List.perm_middle.trans ?_
    rw [List.take_append_drop]
    have e : List.range (i + 1) = List.range i ++ [i] := List.range_succ
    rw [e]
    refine (hP.1.cons i).trans ?_
    exact (List.perm_append_singleton i (List.range i)).symm
  · unfold cu
    have hpw := hP.2
    rw [← List.take_append_drop k P, List.pairwise_append] at hpw
    obtain ⟨p1, p2, p3⟩ := hpw
    rw [List.pairwise_append, List.pairwise_cons]
    refine ⟨p1, ⟨fun b hb => ?_, p2⟩, fun a ha b hb => ?_⟩
    · have h := h1 b hb
      have hbi := hm b (List.mem_of_mem_drop hb)
      unfold AheadP gd at h
      unfold Pl
      omega
    · rcases List.mem_cons.1 hb with rfl | hb
      · have hai := hm a (List.mem_of_mem_take ha)
        obtain ⟨j, hj, e⟩ := List.getElem_of_mem ha
        rw [List.length_take] at hj
        rw [List.getElem_take] at e
        have hk0 : k - 1 < P.length := by omega
        have h := h2 (k - 1) hk0 (by omega)
        have hbi := hm P[k - 1] (List.getElem_mem hk0)
        by_cases hjk : j = k - 1
        · subst hjk
          rw [e] at h
          unfold AheadP gd at h
          unfold Pl
          omega
        · have hpp := List.pairwise_iff_getElem.1 hP.2 j (k - 1) (by omega) hk0 (by omega)
          rw [e] at hpp
          unfold AheadP gd at h
          unfold Pl at hpp ⊢
          omega
      · exact p3 a ha b hb

/-- Whole numbers in a slice of the call's own. -/
def IRow (w : World) (B : Nat) (v : Value) (l : List Nat) : Prop := w.ownsRow B 3 1 v l.length (l.map nv)

theorem irow_form {w : World} {B : Nat} {v : Value} {l : List Nat} (h : IRow w B v l) (hl : l ≠ []) : ∃ g c, v = .slice (some ⟨g, 0, none⟩) l.length c ∧ B ≤ g := by
  rcases h.2 with ⟨_, h0⟩ | ⟨g, cap, cur, hv, hB, _⟩
  · exact absurd (List.eq_nil_of_length_eq_zero h0) hl
  · exact ⟨g, cap, hv, hB⟩

theorem irow_set {w : World} {B g n c : Nat} {l : List Nat} (h : IRow w B (.slice (some ⟨g, 0, none⟩) n c) l) (hn : n = l.length) (j x : Nat) : IRow (w.setCell ⟨g, j, none⟩ (nv x)) B (.slice (some ⟨g, 0, none⟩) n c) (l.set j x) := by
  subst hn
  have h1 := (World.ownsRow.stored h j (nv x)).1
  unfold IRow
  rw [List.length_set, List.map_set]
  simpa using h1

theorem irow_at {w : World} {B g n c : Nat} {l : List Nat} (h : IRow w B (.slice (some ⟨g, 0, none⟩) n c) l) (hn : n = l.length) (i x : Nat) (hi : l[i]? = some x) : w.cell? ⟨g, i, none⟩ = some (.int .i64 (x : Int)) ∧ w.frozen? ⟨g, i, none⟩ = false := by
  subst hn
  have hlt := (List.getElem?_eq_some_iff.1 hi).1
  have h1 := World.ownsRow.cellAt h i (by omega)
  refine ⟨?_, World.ownsRow.frozenAt h i⟩
  rw [h1, List.getElem?_map, hi]
  rfl

theorem sub_one (k k' : Nat) (hk : k = k' + 1) (hb : k ≤ 4611686018427387904) (s t : Operand) (W : World) : (do eqGuard .sub 3 s t (.int .i64 (k : Int)) (.int .i64 1); binOp .sub 3 (.int .i64 (k : Int)) (.int .i64 1) : Sem Value).run Try.prog W = .ok (.int .i64 (k' : Int)) W := by
  have h64 : IntKind.i64.wrap ((k : Int) - 1) = (k' : Int) := by
    rw [IntKind.wrap_i64]
    omega
  simp [eqGuard, go_sem, h64]

theorem wrap_less (k k' : Nat) (hk : k = k' + 1) (hb : k ≤ 4611686018427387904) : wrap64 ((k : Int) - 1) = (k' : Int) := by
  rw [hk, show (((k' + 1 : Nat) : Int) - 1) = (k' : Int) by omega]
  exact IntWalk.wrap64_in _ ⟨by omega, by omega⟩

theorem gtr_zero (k : Nat) (b : Bool) (hb : b = decide (0 < k)) (s t : Operand) (W : World) : (do eqGuard .gtr 3 s t (.int .i64 (k : Int)) (.int .i64 0); binOp .gtr 3 (.int .i64 (k : Int)) (.int .i64 0) : Sem Value).run Try.prog W = .ok (.bool b) W := by
  rw [hb]
  simp [eqGuard, go_sem]

theorem int_one (w : World) (x : Value) : ∀ (j : Nat) (u : Value), [x][j]? = some u → (w.alloc (.cells #[x] 3)).cell? ((⟨w.heap.size, 0, none⟩ : Addr).add j) = some u := by
  intro j u h
  cases j with
  | zero => simp at h; subst h; simp [Addr.add, World.cell?_alloc_at]
  | succ j => simp at h

set_option maxRecDepth 100000 in
set_option maxHeartbeats 4000000 in
theorem refrows_any (ms : List G) (v : Value) (w : World) (hv : Gls w v ms) (hok : ∀ i (h : i < ms.length), ms[i].Ok) (hn : ms.length ≤ 1000) :
    Calls Try.prog 21 #[v] w fun e w' => ∃ v' P, e = .returned v' ∧ IRow w' w.heap.size v' P ∧ Placed ms ms.length P ∧ Below w.heap.size w w' := by
  obtain ⟨i1, hi1, hy0, hy1, hy2⟩ := info_parts int_info
  have hv0 := hv
  obtain ⟨a, cap, rfl, hlc, hgl⟩ := hv
  have HGl := Lib.hid hgl
  have HOk := Lib.hid hok
  obtain ⟨n, hnn⟩ : ∃ n, n = ms.length := ⟨_, rfl⟩
  rw [← hnn] at hn ⊢
  have HNn := Lib.hid hnn
  have HV0 := Lib.hid (show ∀ W, Below w.heap.size w W → Gls W (.slice a n cap) ms from fun W hW => by rw [hnn]; exact hv0.keep hW)
  clear hgl hok hlc hnn hv0
  go_enter Try.func21, Try.ntmps21
  go_wp2
  go_loopw [3, 4] (fun s3 s4 wr => ∃ (i : Nat) (P : List Nat), i ≤ n ∧ s4 = .int .i64 (i : Int) ∧ IRow wr w.heap.size s3 P ∧ Placed ms i P ∧ Below w.heap.size w wr) (fun _ s4 _ => n - (intOf s4).toNat)
  case atStart => exact ⟨0, [], by omega, rfl, World.ownsRow_nil _ _ _ _, ⟨List.Perm.refl _, List.Pairwise.nil⟩, Below.refl _ _⟩
  case round =>
    obtain ⟨i, P, hin, rfl, hrow, hpl, hbel⟩ := hrel
    have HR := Lib.hid hrow
    have HP := Lib.hid hpl
    have HB := Lib.hid hbel
    have hpl1 := (placed_lt hpl).1
    have HPl := Lib.hid hpl1
    obtain ⟨a3, c3, hu3⟩ : ∃ a3 c3, u3 = .slice a3 i c3 := by
      rcases hrow.2 with ⟨e, h0⟩ | ⟨g, cap, cur, e, _⟩
      · exact ⟨none, 0, by rw [e]; congr 1; omega⟩
      · exact ⟨_, _, by rw [e, hpl1]⟩
    subst hu3
    clear hrow hpl hbel hpl1
    by_cases hlt : i < n
    · go_wp2_with (at_builtin; refine wpList_append_own _ rfl _ _ 42 rfl w.heap.size 3 i1 (.int .i64 0) 1 8 Try.underlying42 hi1 hy0 hy1 hy2 rfl (by decide) _ _ _ rfl (World.ownsRow.alloc HR.out _) ⟨wr.heap.size, 0, none⟩ 1 1 [_] rfl rfl (int_one _ _) (by simp [Value.oneCell']) (by unfold maxLen; have := HPl.out; omega) (by have := HPl.out; omega) (by have := HB.out.size; simp; omega) ?_; intro v' w2 hown1 hgrow1 hnil1; (have HO1 := Lib.hid hown1); (have HG1 := Lib.hid hgrow1); clear hown1 hgrow1 hnil1)
      have hrow2 : IRow w2 w.heap.size v' (cu P i i) := by
        have h := HO1.out
        unfold IRow
        have e := cu_end P i
        rw [HPl.out] at e
        rw [← e, List.length_append, List.map_append]
        simpa [nv] using h
      have hb2 : Below w.heap.size w w2 := Below.grown (HB.out.alloc HB.out.size _) HG1.out (by have := HB.out.size; simp; omega) (fun k hk => (World.ownsRow.lt HR.out k hk).1)
      obtain ⟨gq, cq, hv', hgq⟩ := irow_form hrow2 (by unfold cu; simp)
      rw [cu_length (by have := HPl.out; omega), HPl.out] at hv'
      subst hv'
      have HR2 := Lib.hid hrow2
      have HB2 := Lib.hid hb2
      have HGq := Lib.hid hgq
      have him : i < ms.length := by have := HNn.out; omega
      obtain ⟨g, rfl, -⟩ := HGl.out i him
      have HAg := Lib.hid (show gd ms i = ms[i] by unfold gd; rw [List.getD, List.getElem?_eq_getElem him, Option.getD_some])
      have HAok := Lib.hid (show (gd ms i).Ok by rw [HAg.out]; exact HOk.out i him)
      have HLd := Lib.hid (show ∀ j, j < n → ∀ W, Below w.heap.size w W → (Instr.loadAt 27 (.pointer (some ⟨g, j * 5, none⟩))).run Try.prog W = .ok (.agg (gd ms j).cells) W from fun j hj W hW => by
        have hjm : j < ms.length := by have := HNn.out; omega
        obtain ⟨g', e, hcs⟩ := HGl.out j hjm
        injection e with e
        injection e with e _ _
        subst e
        have e2 : gd ms j = ms[j] := by unfold gd; rw [List.getD, List.getElem?_eq_getElem hjm, Option.getD_some]
        rw [e2]
        exact gls_load (fun c u hu => by rw [hW.cell (World.block_lt_of_cell? w _ (hcs c u hu))]; exact hcs c u hu))
      have HLt := Lib.hid hlt
      clear hrow2 hb2 hgq HO1 HG1 HR HB hlt hin
      obtain ⟨wo, rfl⟩ : ∃ wo : World, wo = wr := ⟨_, rfl⟩
      refine frame_cut 50 rfl rfl ?_
      intro us0 hus
      have f0 : us0 0 = .slice (some ⟨g, 0, none⟩) n cap := hus 0
      have f1 : us0 1 = undef := hus 1
      have f2 : us0 2 = .slice none 0 0 := hus 2
      have f49 : us0 49 = undef := hus 49
      have f3 : us0 3 = .slice (some ⟨gq, 0, none⟩) (i + 1) cq := hus 3
      have f4 : us0 4 = .int .i64 (i : Int) := hus 4
      have f5 : us0 5 = .int .i64 (i : Int) := hus 5
      clear hus
      have el : ((List.range 50).map us0).toArray = #[us0 0, us0 1, us0 2, us0 3, us0 4, us0 5, us0 6, us0 7, us0 8, us0 9, us0 10, us0 11, us0 12, us0 13, us0 14, us0 15, us0 16, us0 17, us0 18, us0 19, us0 20, us0 21, us0 22, us0 23, us0 24, us0 25, us0 26, us0 27, us0 28, us0 29, us0 30, us0 31, us0 32, us0 33, us0 34, us0 35, us0 36, us0 37, us0 38, us0 39, us0 40, us0 41, us0 42, us0 43, us0 44, us0 45, us0 46, us0 47, us0 48, us0 49] := rfl
      rw [el, f0, f1, f2, f49, f3, f4, f5]
      clear el f0 f1 f2 f49 f3 f4 f5
      go_wp2
      go_loopw [5] (fun s5 wr => ∃ k c : Nat, k ≤ i ∧ s5 = .int .i64 (k : Int) ∧ IRow wr w.heap.size (.slice (some ⟨gq, 0, none⟩) (i + 1) cq) (cu P k c) ∧ (∀ b ∈ P.drop k, AheadP (gd ms i) (gd ms b)) ∧ Below w.heap.size w wr) (fun s5 _ => (intOf s5).toNat)
      case atStart => exact ⟨i, i, Nat.le_refl _, rfl, HR2.out, (fun b hb => by
          rw [List.drop_of_length_le (by have := HPl.out; omega)] at hb
          cases hb), HB2.out⟩
      case round =>
        obtain ⟨k, c, hki, rfl, hrow, hdr, hbel⟩ := hrel
        have HR := Lib.hid hrow
        have HD := Lib.hid hdr
        have HB := Lib.hid hbel
        have hlen : (cu P k c).length = i + 1 := by rw [cu_length (by have := HPl.out; omega), HPl.out]
        have HLen := Lib.hid hlen
        have HKi := Lib.hid hki
        clear hrow hdr hbel HR2 HB2 hlen
        have hK : ∀ W W' : World, (IRow W w.heap.size (.slice (some ⟨gq, 0, none⟩) (i + 1) cq) (cu P k c) ∧ Below w.heap.size w W) → Below W.heap.size W W' → (IRow W' w.heap.size (.slice (some ⟨gq, 0, none⟩) (i + 1) cq) (cu P k c) ∧ Below w.heap.size w W') := fun W W' hW hb => ⟨ownsRow_keep hW.1 hb, hW.2.trans (hb.mono hW.2.size)⟩
        have HK := Lib.hid hK
        clear hK
        go_upto_region 7 with fail
        by_cases hk0 : k = 0
        · have HK0 := Lib.hid hk0
          clear hk0
          refine region_skip [(18, .is (.int .i64 (k : Int))), (19, .is (.bool false)), (20, .is (.bool false)), (21, .is undef), (22, .is undef), (23, .is undef), (24, .is undef), (25, .is undef), (26, .is undef), (27, .is undef), (28, .is undef), (29, .is undef), (30, .is undef), (31, .is undef), (32, .is undef), (33, .is undef), (34, .is (.bool false))] [0, 1, 2, 3, 4, 5, 6, 7, 8, 9, 10, 11, 12, 13, 14, 15, 16, 17, 45, 46, 47, 48, 49, 34] (fun W => IRow W w.heap.size (.slice (some ⟨gq, 0, none⟩) (i + 1) cq) (cu P k c) ∧ Below w.heap.size w W) (by kernel_rfl) (by kernel_rfl) (by kernel_rfl) (by kernel_rfl) (by kernel_rfl) (HK.out _ _ ⟨HR.out, HB.out⟩ (Below.refl _ _).drew) ?_ ?_
          · refine ⟨?c0, ?c1, ?c2, ?c3, ?c4, ?c5, ?c6, ?c7, ?c8, ?c9, ?c10, ?c11, ?c12, ?c13, ?c14, ?c15, ?c16, trivial⟩
            case c0 => exact runs (ask_copy (guard_none rfl) (.tmp 5) (.inl rfl) (by intro k hk; cases hk; rfl))
            case c1 => exact runs (ask_bin (guard_none rfl) _ _ _ _ _ _ _ _ rfl rfl rfl (by intro k hk; cases hk; rfl) (gtr_zero k false (by have := HK0.out; simp; omega) _ _))
            case c2 => exact runs (ask_copy (guard_none rfl) (.tmp 19) (.inl rfl) (by intro k hk; cases hk; rfl))
            case c3 => exact skips 2 true 20 (.bool false) rfl rfl rfl (by simp) (by intro k hk; cases hk; rfl)
            case c4 => exact skips 2 true 20 (.bool false) rfl rfl rfl (by simp) (by intro k hk; cases hk; rfl)
            case c5 => exact skips 2 true 20 (.bool false) rfl rfl rfl (by simp) (by intro k hk; cases hk; rfl)
            case c6 => exact skips 2 true 20 (.bool false) rfl rfl rfl (by simp) (by intro k hk; cases hk; rfl)
            case c7 => exact skips 2 true 20 (.bool false) rfl rfl rfl (by simp) (by intro k hk; cases hk; rfl)
            case c8 => exact skips 2 true 20 (.bool false) rfl rfl rfl (by simp) (by intro k hk; cases hk; rfl)
            case c9 => exact skips 2 true 20 (.bool false) rfl rfl rfl (by simp) (by intro k hk; cases hk; rfl)
            case c10 => exact skips 2 true 20 (.bool false) rfl rfl rfl (by simp) (by intro k hk; cases hk; rfl)
            case c11 => exact skips 2 true 20 (.bool false) rfl rfl rfl (by simp) (by intro k hk; cases hk; rfl)
            case c12 => exact skips 2 true 20 (.bool false) rfl rfl rfl (by simp) (by intro k hk; cases hk; rfl)
            case c13 => exact skips 2 true 20 (.bool false) rfl rfl rfl (by simp) (by intro k hk; cases hk; rfl)
            case c14 => exact skips 2 true 20 (.bool false) rfl rfl rfl (by simp) (by intro k hk; cases hk; rfl)
            case c15 => exact skips 2 true 20 (.bool false) rfl rfl rfl (by simp) (by intro k hk; cases hk; rfl)
            case c16 => exact runs (ask_pick (guard_none rfl) (.tmp 20) _ _ false rfl rfl (by intro k hk; cases hk; rfl))
          · intro a' W7 hW7 hd7 hs7 hf7
            have t0 : a'.tmps.getD 0 undef = .slice (some ⟨g, 0, none⟩) n cap := hf7 0 rfl
            have t1 : a'.tmps.getD 1 undef = undef := hf7 1 rfl
            have t2 : a'.tmps.getD 2 undef = .slice none 0 0 := hf7 2 rfl
            have t3 : a'.tmps.getD 3 undef = .slice (some ⟨gq, 0, none⟩) (i + 1) cq := hf7 3 rfl
            have t4 : a'.tmps.getD 4 undef = .int .i64 (i : Int) := hf7 4 rfl
            have t5 : a'.tmps.getD 5 undef = .int .i64 (k : Int) := hf7 5 rfl
            have t6 : a'.tmps.getD 6 undef = us0 6 := hf7 6 rfl
            have t7 : a'.tmps.getD 7 undef = us0 7 := hf7 7 rfl
            have t8 : a'.tmps.getD 8 undef = us0 8 := hf7 8 rfl
            have t9 : a'.tmps.getD 9 undef = us0 9 := hf7 9 rfl
            have t10 : a'.tmps.getD 10 undef = us0 10 := hf7 10 rfl
            have t11 : a'.tmps.getD 11 undef = us0 11 := hf7 11 rfl
            have t12 : a'.tmps.getD 12 undef = us0 12 := hf7 12 rfl
            have t13 : a'.tmps.getD 13 undef = us0 13 := hf7 13 rfl
            have t14 : a'.tmps.getD 14 undef = us0 14 := hf7 14 rfl
            have t15 : a'.tmps.getD 15 undef = us0 15 := hf7 15 rfl
            have t16 : a'.tmps.getD 16 undef = us0 16 := hf7 16 rfl
            have t17 : a'.tmps.getD 17 undef = us0 17 := hf7 17 rfl
            have t45 : a'.tmps.getD 45 undef = us0 45 := hf7 45 rfl
            have t46 : a'.tmps.getD 46 undef = us0 46 := hf7 46 rfl
            have t47 : a'.tmps.getD 47 undef = us0 47 := hf7 47 rfl
            have t48 : a'.tmps.getD 48 undef = us0 48 := hf7 48 rfl
            have t49 : a'.tmps.getD 49 undef = undef := hf7 49 rfl
            have t34 : a'.tmps.getD 34 undef = .bool false := hf7 34 rfl
            obtain ⟨us, hus, ha'⟩ := act_open 50 a' hs7 hd7
            rw [← hus] at t0 t1 t2 t3 t4 t5 t6 t7 t8 t9 t10 t11 t12 t13 t14 t15 t16 t17 t45 t46 t47 t48 t49 t34
            have el : ((List.range 50).map us).toArray = #[us 0, us 1, us 2, us 3, us 4, us 5, us 6, us 7, us 8, us 9, us 10, us 11, us 12, us 13, us 14, us 15, us 16, us 17, us 18, us 19, us 20, us 21, us 22, us 23, us 24, us 25, us 26, us 27, us 28, us 29, us 30, us 31, us 32, us 33, us 34, us 35, us 36, us 37, us 38, us 39, us 40, us 41, us 42, us 43, us 44, us 45, us 46, us 47, us 48, us 49] := rfl
            rw [el] at ha'
            subst ha'
            rw [t0, t1, t2, t3, t4, t5, t6, t7, t8, t9, t10, t11, t12, t13, t14, t15, t16, t17, t45, t46, t47, t48, t49, t34]
            clear hus t0 t1 t2 t3 t4 t5 t6 t7 t8 t9 t10 t11 t12 t13 t14 t15 t16 t17 t45 t46 t47 t48 t49 t34 el hf7 hs7 hd7
            have HR7 := Lib.hid hW7.1
            have HB7 := Lib.hid hW7.2
            clear hW7 HR HB
            have hatk : (cu P k c)[k]? = some c := by
              unfold cu
              rw [List.getElem?_append_right (by rw [List.length_take]; have := HPl.out; omega), List.length_take, Nat.min_eq_left (by have := HPl.out; have := HKi.out; omega), Nat.sub_self]
              rfl
            obtain ⟨hcc, hff⟩ := irow_at HR7.out HLen.out.symm k c hatk
            have hidn := fun W => int_index W gq (i + 1) cq k (by have := HKi.out; omega)
            have HNew := Lib.hid (show IRow (W7.setCell ⟨gq, k, none⟩ (nv i)) w.heap.size (.slice (some ⟨gq, 0, none⟩) (i + 1) cq) (cu P k i) by
              have h := irow_set HR7.out HLen.out.symm k i
              rw [cu_set (by have := HPl.out; have := HKi.out; omega)] at h
              exact h)
            have HPn := Lib.hid (show Placed ms (i + 1) (cu P k i) from placed_insert HP.out HKi.out HD.out (fun j hj e => by have := HK0.out; omega))
            have HBn7 := Lib.hid (show Below w.heap.size w (W7.setCell ⟨gq, k, none⟩ (nv i)) from HB7.out.setCell HGq.out _)
            clear hatk HR7 HB7
            have hlt2 : i < n := HLt.out
            go_wp2
            go_roundw
            case rel => exact ⟨i + 1, cu P k i, hlt2, by go_num, HNew.out, HPn.out, HBn7.out⟩
            case measure => simp [intOf]; omega
        · obtain ⟨k1, hkk⟩ : ∃ k1, k = k1 + 1 := ⟨k - 1, by omega⟩
          have hk1 : k1 < P.length := by have := HPl.out; omega
          obtain ⟨b, hb⟩ : ∃ b, b = P[k1] := ⟨_, rfl⟩
          have HAt := Lib.hid (show (cu P k c)[k1]? = some b by rw [hkk, hb]; exact cu_at (by omega))
          have HBi := Lib.hid (show b < i by rw [hb]; exact (placed_lt HP.out).2 _ (List.getElem_mem hk1))
          have HBn := Lib.hid (show b < n by have := HBi.out; have := HLt.out; omega)
          have HBok := Lib.hid (show (gd ms b).Ok by
            have hbm : b < ms.length := by have := HBn.out; have := HNn.out; omega
            unfold gd
            rw [List.getD, List.getElem?_eq_getElem hbm, Option.getD_some]
            exact HOk.out b hbm)
          have HKk := Lib.hid hkk
          have HBe := Lib.hid hb
          have HK1 := Lib.hid hk1
          clear hkk hk0 hb hki
          by_cases hah : AheadP (gd ms i) (gd ms b)
          · have HAh := Lib.hid (show (true = true ↔ AheadP (gd ms i) (gd ms b)) from ⟨fun _ => hah, fun _ => rfl⟩)
            clear hah
            refine region_skip [(18, .is (.int .i64 (k : Int))), (19, .is (.bool true)), (20, .is (.bool true)), (21, .is (.slice (some ⟨g, 0, none⟩) n cap)), (22, .is (.int .i64 (i : Int))), (23, .is (.pointer (some ⟨g, i * 5, none⟩))), (24, .is (.agg (gd ms i).cells)), (25, .is (.slice (some ⟨g, 0, none⟩) n cap)), (26, .is (.slice (some ⟨gq, 0, none⟩) (i + 1) cq)), (27, .is (.int .i64 (k : Int))), (28, .is (.int .i64 (k1 : Int))), (29, .is (.pointer (some ⟨gq, k1, none⟩))), (30, .is (.int .i64 (b : Int))), (31, .is (.pointer (some ⟨g, b * 5, none⟩))), (32, .is (.agg (gd ms b).cells)), (33, .is (.bool true)), (34, .is (.bool true))] [0, 1, 2, 3, 4, 5, 6, 7, 8, 9, 10, 11, 12, 13, 14, 15, 16, 17, 45, 46, 47, 48, 49, 34] (fun W => IRow W w.heap.size (.slice (some ⟨gq, 0, none⟩) (i + 1) cq) (cu P k c) ∧ Below w.heap.size w W) (by kernel_rfl) (by kernel_rfl) (by kernel_rfl) (by kernel_rfl) (by kernel_rfl) (HK.out _ _ ⟨HR.out, HB.out⟩ (Below.refl _ _).drew) ?_ ?_
            · refine ⟨?c0, ?c1, ?c2, ?c3, ?c4, ?c5, ?c6, ?c7, ?c8, ?c9, ?c10, ?c11, ?c12, ?c13, ?c14, ?c15, ?c16, trivial⟩
              case c0 => exact runs (ask_copy (guard_none rfl) (.tmp 5) (.inl rfl) (by intro k hk; cases hk; rfl))
              case c1 => exact runs (ask_bin (guard_none rfl) _ _ _ _ _ _ _ _ rfl rfl rfl (by intro k hk; cases hk; rfl) (gtr_zero k true (by have := HKk.out; simp; omega) _ _))
              case c2 => exact runs (ask_copy (guard_none rfl) (.tmp 19) (.inl rfl) (by intro k hk; cases hk; rfl))
              case c3 => exact runs (ask_copy (guard_some rfl rfl rfl) (.tmp 0) (.inl rfl) (by intro k hk; cases hk; rfl))
              case c4 => exact runs (ask_copy (guard_some rfl rfl rfl) (.tmp 4) (.inl rfl) (by intro k hk; cases hk; rfl))
              case c5 => exact runs (ask_exec (guard_some rfl rfl rfl) (.pointer (some ⟨g, i * 5, none⟩)) rfl rfl (by intro k hk; cases hk; rfl) (fun W hW => by show ((Instr.indexAt _ _ _ >>= fun v => pure (.value v) : Sem Next)).run _ _ = _; rw [Sem.run_bind]; show ((Instr.indexAt 38 (.slice (some ⟨g, 0, none⟩) n cap) (.int .i64 (i : Int))).run Try.prog W).andThen _ = _; rw [gls_index W g n cap i HLt.out]; rfl))
              case c6 => exact runs (ask_load (guard_some rfl rfl rfl) _ (.tmp 23) (.pointer (some ⟨g, i * 5, none⟩)) (.agg (gd ms i).cells) rfl rfl (by intro k hk; cases hk; rfl) (fun W hW => HLd.out i HLt.out W hW.2))
              case c7 => exact runs (ask_copy (guard_some rfl rfl rfl) (.tmp 0) (.inl rfl) (by intro k hk; cases hk; rfl))
              case c8 => exact runs (ask_copy (guard_some rfl rfl rfl) (.tmp 3) (.inl rfl) (by intro k hk; cases hk; rfl))
              case c9 => exact runs (ask_copy (guard_some rfl rfl rfl) (.tmp 5) (.inl rfl) (by intro k hk; cases hk; rfl))
              case c10 => exact runs (ask_bin (guard_some rfl rfl rfl) _ _ _ _ _ _ _ _ rfl rfl rfl (by intro k hk; cases hk; rfl) (sub_one k k1 HKk.out (by have := HKi.out; have := HLt.out; omega) _ _))
              case c11 => exact runs (ask_exec (guard_some rfl rfl rfl) (.pointer (some ⟨gq, k1, none⟩)) rfl rfl (by intro k hk; cases hk; rfl) (fun W hW => by show ((Instr.indexAt _ _ _ >>= fun v => pure (.value v) : Sem Next)).run _ _ = _; rw [Sem.run_bind]; show ((Instr.indexAt 42 (.slice (some ⟨gq, 0, none⟩) (i + 1) cq) (.int .i64 (k1 : Int))).run Try.prog W).andThen _ = _; rw [int_index W gq (i + 1) cq k1 (by have := HKk.out; have := HKi.out; omega)]; rfl))
              case c12 => exact runs (ask_load (guard_some rfl rfl rfl) _ (.tmp 29) (.pointer (some ⟨gq, k1, none⟩)) (.int .i64 (b : Int)) rfl rfl (by intro k hk; cases hk; rfl) (fun W hW => load_int W _ _ (irow_at hW.1 HLen.out.symm k1 b HAt.out).1))
              case c13 => exact runs (ask_exec (guard_some rfl rfl rfl) (.pointer (some ⟨g, b * 5, none⟩)) rfl rfl (by intro k hk; cases hk; rfl) (fun W hW => by show ((Instr.indexAt _ _ _ >>= fun v => pure (.value v) : Sem Next)).run _ _ = _; rw [Sem.run_bind]; show ((Instr.indexAt 38 (.slice (some ⟨g, 0, none⟩) n cap) (.int .i64 (b : Int))).run Try.prog W).andThen _ = _; rw [gls_index W g n cap b HBn.out]; rfl))
              case c14 => exact runs (ask_load (guard_some rfl rfl rfl) _ (.tmp 31) (.pointer (some ⟨g, b * 5, none⟩)) (.agg (gd ms b).cells) rfl rfl (by intro k hk; cases hk; rfl) (fun W hW => HLd.out b HBn.out W hW.2))
              case c15 => exact runs (ask_call HK.out (guard_some rfl rfl rfl) _ _ _ #[.agg (gd ms i).cells, .agg (gd ms b).cells] (.is (.bool true)) rfl (by kernel_rfl) rfl rfl (by intro k hk; cases hk; rfl) (fun W hW => (refahead_any (gd ms i) (gd ms b) true W HAok.out HBok.out HAh.out).mono fun e w' q => ⟨_, q.1, rfl, q.2⟩))
              case c16 => exact runs (ask_pick (guard_none rfl) (.tmp 20) _ _ true rfl rfl (by intro k hk; cases hk; rfl))
            · intro a' W7 hW7 hd7 hs7 hf7
              have t0 : a'.tmps.getD 0 undef = .slice (some ⟨g, 0, none⟩) n cap := hf7 0 rfl
              have t1 : a'.tmps.getD 1 undef = undef := hf7 1 rfl
              have t2 : a'.tmps.getD 2 undef = .slice none 0 0 := hf7 2 rfl
              have t3 : a'.tmps.getD 3 undef = .slice (some ⟨gq, 0, none⟩) (i + 1) cq := hf7 3 rfl
              have t4 : a'.tmps.getD 4 undef = .int .i64 (i : Int) := hf7 4 rfl
              have t5 : a'.tmps.getD 5 undef = .int .i64 (k : Int) := hf7 5 rfl
              have t6 : a'.tmps.getD 6 undef = us0 6 := hf7 6 rfl
              have t7 : a'.tmps.getD 7 undef = us0 7 := hf7 7 rfl
              have t8 : a'.tmps.getD 8 undef = us0 8 := hf7 8 rfl
              have t9 : a'.tmps.getD 9 undef = us0 9 := hf7 9 rfl
              have t10 : a'.tmps.getD 10 undef = us0 10 := hf7 10 rfl
              have t11 : a'.tmps.getD 11 undef = us0 11 := hf7 11 rfl
              have t12 : a'.tmps.getD 12 undef = us0 12 := hf7 12 rfl
              have t13 : a'.tmps.getD 13 undef = us0 13 := hf7 13 rfl
              have t14 : a'.tmps.getD 14 undef = us0 14 := hf7 14 rfl
              have t15 : a'.tmps.getD 15 undef = us0 15 := hf7 15 rfl
              have t16 : a'.tmps.getD 16 undef = us0 16 := hf7 16 rfl
              have t17 : a'.tmps.getD 17 undef = us0 17 := hf7 17 rfl
              have t45 : a'.tmps.getD 45 undef = us0 45 := hf7 45 rfl
              have t46 : a'.tmps.getD 46 undef = us0 46 := hf7 46 rfl
              have t47 : a'.tmps.getD 47 undef = us0 47 := hf7 47 rfl
              have t48 : a'.tmps.getD 48 undef = us0 48 := hf7 48 rfl
              have t49 : a'.tmps.getD 49 undef = undef := hf7 49 rfl
              have t34 : a'.tmps.getD 34 undef = .bool true := hf7 34 rfl
              obtain ⟨us, hus, ha'⟩ := act_open 50 a' hs7 hd7
              rw [← hus] at t0 t1 t2 t3 t4 t5 t6 t7 t8 t9 t10 t11 t12 t13 t14 t15 t16 t17 t45 t46 t47 t48 t49 t34
              have el : ((List.range 50).map us).toArray = #[us 0, us 1, us 2, us 3, us 4, us 5, us 6, us 7, us 8, us 9, us 10, us 11, us 12, us 13, us 14, us 15, us 16, us 17, us 18, us 19, us 20, us 21, us 22, us 23, us 24, us 25, us 26, us 27, us 28, us 29, us 30, us 31, us 32, us 33, us 34, us 35, us 36, us 37, us 38, us 39, us 40, us 41, us 42, us 43, us 44, us 45, us 46, us 47, us 48, us 49] := rfl
              rw [el] at ha'
              subst ha'
              rw [t0, t1, t2, t3, t4, t5, t6, t7, t8, t9, t10, t11, t12, t13, t14, t15, t16, t17, t45, t46, t47, t48, t49, t34]
              clear hus t0 t1 t2 t3 t4 t5 t6 t7 t8 t9 t10 t11 t12 t13 t14 t15 t16 t17 t45 t46 t47 t48 t49 t34 el hf7 hs7 hd7
              have HR7 := Lib.hid hW7.1
              have HB7 := Lib.hid hW7.2
              clear hW7 HR HB
              obtain ⟨hc1, hf1⟩ := irow_at HR7.out HLen.out.symm k1 b HAt.out
              have hatk : (cu P k c)[k]? = some c := by
                unfold cu
                rw [List.getElem?_append_right (by rw [List.length_take]; have := HPl.out; omega), List.length_take, Nat.min_eq_left (by have := HPl.out; have := HKi.out; omega), Nat.sub_self]
                rfl
              obtain ⟨hcc, hff⟩ := irow_at HR7.out HLen.out.symm k c hatk
              have hidn := fun W => int_index W gq (i + 1) cq k (by have := HKi.out; omega)
              have hid1 := fun W => int_index W gq (i + 1) cq k1 (by have := HKk.out; have := HKi.out; omega)
              have HNew := Lib.hid (show IRow (W7.setCell ⟨gq, k, none⟩ (nv b)) w.heap.size (.slice (some ⟨gq, 0, none⟩) (i + 1) cq) (cu P k1 b) by
                have h := irow_set HR7.out HLen.out.symm k b
                rw [cu_set (by have := HPl.out; have := HKi.out; omega)] at h
                have e := cu_step (P := P) (k := k1) (by have := HK1.out; omega)
                rw [← HBe.out, ← HKk.out] at e
                rw [e] at h
                exact h)
              have HDn := Lib.hid (show ∀ x ∈ P.drop k1, AheadP (gd ms i) (gd ms x) from fun x hx => by
                rw [List.drop_eq_getElem_cons HK1.out, ← HBe.out, ← HKk.out] at hx
                rcases List.mem_cons.1 hx with rfl | hx
                · exact HAh.out.1 rfl
                · exact HD.out x hx)
              have HBn7 := Lib.hid (show Below w.heap.size w (W7.setCell ⟨gq, k, none⟩ (nv b)) from HB7.out.setCell HGq.out _)
              have hk1i : k1 ≤ i := by have := HKk.out; have := HKi.out; omega
              have hw := wrap_less k k1 HKk.out (by have := HKi.out; have := HLt.out; omega)
              clear hatk HR7 HB7
              have HW := Lib.hid hw
              go_wp2
              clear hw
              go_roundw
              case rel => exact ⟨k1, b, hk1i, by first | rfl | rw [HW.out], HNew.out, HDn.out, HBn7.out⟩
              case measure => have hh := HKk.out; have hw := HW.out; simp only [intOf, hw]; omega
          · have HAh := Lib.hid (show (false = true ↔ AheadP (gd ms i) (gd ms b)) from ⟨(fun h => by cases h), (fun h => absurd h hah)⟩)
            clear hah
            refine region_skip [(18, .is (.int .i64 (k : Int))), (19, .is (.bool true)), (20, .is (.bool true)), (21, .is (.slice (some ⟨g, 0, none⟩) n cap)), (22, .is (.int .i64 (i : Int))), (23, .is (.pointer (some ⟨g, i * 5, none⟩))), (24, .is (.agg (gd ms i).cells)), (25, .is (.slice (some ⟨g, 0, none⟩) n cap)), (26, .is (.slice (some ⟨gq, 0, none⟩) (i + 1) cq)), (27, .is (.int .i64 (k : Int))), (28, .is (.int .i64 (k1 : Int))), (29, .is (.pointer (some ⟨gq, k1, none⟩))), (30, .is (.int .i64 (b : Int))), (31, .is (.pointer (some ⟨g, b * 5, none⟩))), (32, .is (.agg (gd ms b).cells)), (33, .is (.bool false)), (34, .is (.bool false))] [0, 1, 2, 3, 4, 5, 6, 7, 8, 9, 10, 11, 12, 13, 14, 15, 16, 17, 45, 46, 47, 48, 49, 34] (fun W => IRow W w.heap.size (.slice (some ⟨gq, 0, none⟩) (i + 1) cq) (cu P k c) ∧ Below w.heap.size w W) (by kernel_rfl) (by kernel_rfl) (by kernel_rfl) (by kernel_rfl) (by kernel_rfl) (HK.out _ _ ⟨HR.out, HB.out⟩ (Below.refl _ _).drew) ?_ ?_
            · refine ⟨?c0, ?c1, ?c2, ?c3, ?c4, ?c5, ?c6, ?c7, ?c8, ?c9, ?c10, ?c11, ?c12, ?c13, ?c14, ?c15, ?c16, trivial⟩
              case c0 => exact runs (ask_copy (guard_none rfl) (.tmp 5) (.inl rfl) (by intro k hk; cases hk; rfl))
              case c1 => exact runs (ask_bin (guard_none rfl) _ _ _ _ _ _ _ _ rfl rfl rfl (by intro k hk; cases hk; rfl) (gtr_zero k true (by have := HKk.out; simp; omega) _ _))
              case c2 => exact runs (ask_copy (guard_none rfl) (.tmp 19) (.inl rfl) (by intro k hk; cases hk; rfl))
              case c3 => exact runs (ask_copy (guard_some rfl rfl rfl) (.tmp 0) (.inl rfl) (by intro k hk; cases hk; rfl))
              case c4 => exact runs (ask_copy (guard_some rfl rfl rfl) (.tmp 4) (.inl rfl) (by intro k hk; cases hk; rfl))
              case c5 => exact runs (ask_exec (guard_some rfl rfl rfl) (.pointer (some ⟨g, i * 5, none⟩)) rfl rfl (by intro k hk; cases hk; rfl) (fun W hW => by show ((Instr.indexAt _ _ _ >>= fun v => pure (.value v) : Sem Next)).run _ _ = _; rw [Sem.run_bind]; show ((Instr.indexAt 38 (.slice (some ⟨g, 0, none⟩) n cap) (.int .i64 (i : Int))).run Try.prog W).andThen _ = _; rw [gls_index W g n cap i HLt.out]; rfl))
              case c6 => exact runs (ask_load (guard_some rfl rfl rfl) _ (.tmp 23) (.pointer (some ⟨g, i * 5, none⟩)) (.agg (gd ms i).cells) rfl rfl (by intro k hk; cases hk; rfl) (fun W hW => HLd.out i HLt.out W hW.2))
              case c7 => exact runs (ask_copy (guard_some rfl rfl rfl) (.tmp 0) (.inl rfl) (by intro k hk; cases hk; rfl))
              case c8 => exact runs (ask_copy (guard_some rfl rfl rfl) (.tmp 3) (.inl rfl) (by intro k hk; cases hk; rfl))
              case c9 => exact runs (ask_copy (guard_some rfl rfl rfl) (.tmp 5) (.inl rfl) (by intro k hk; cases hk; rfl))
              case c10 => exact runs (ask_bin (guard_some rfl rfl rfl) _ _ _ _ _ _ _ _ rfl rfl rfl (by intro k hk; cases hk; rfl) (sub_one k k1 HKk.out (by have := HKi.out; have := HLt.out; omega) _ _))
              case c11 => exact runs (ask_exec (guard_some rfl rfl rfl) (.pointer (some ⟨gq, k1, none⟩)) rfl rfl (by intro k hk; cases hk; rfl) (fun W hW => by show ((Instr.indexAt _ _ _ >>= fun v => pure (.value v) : Sem Next)).run _ _ = _; rw [Sem.run_bind]; show ((Instr.indexAt 42 (.slice (some ⟨gq, 0, none⟩) (i + 1) cq) (.int .i64 (k1 : Int))).run Try.prog W).andThen _ = _; rw [int_index W gq (i + 1) cq k1 (by have := HKk.out; have := HKi.out; omega)]; rfl))
              case c12 => exact runs (ask_load (guard_some rfl rfl rfl) _ (.tmp 29) (.pointer (some ⟨gq, k1, none⟩)) (.int .i64 (b : Int)) rfl rfl (by intro k hk; cases hk; rfl) (fun W hW => load_int W _ _ (irow_at hW.1 HLen.out.symm k1 b HAt.out).1))
              case c13 => exact runs (ask_exec (guard_some rfl rfl rfl) (.pointer (some ⟨g, b * 5, none⟩)) rfl rfl (by intro k hk; cases hk; rfl) (fun W hW => by show ((Instr.indexAt _ _ _ >>= fun v => pure (.value v) : Sem Next)).run _ _ = _; rw [Sem.run_bind]; show ((Instr.indexAt 38 (.slice (some ⟨g, 0, none⟩) n cap) (.int .i64 (b : Int))).run Try.prog W).andThen _ = _; rw [gls_index W g n cap b HBn.out]; rfl))
              case c14 => exact runs (ask_load (guard_some rfl rfl rfl) _ (.tmp 31) (.pointer (some ⟨g, b * 5, none⟩)) (.agg (gd ms b).cells) rfl rfl (by intro k hk; cases hk; rfl) (fun W hW => HLd.out b HBn.out W hW.2))
              case c15 => exact runs (ask_call HK.out (guard_some rfl rfl rfl) _ _ _ #[.agg (gd ms i).cells, .agg (gd ms b).cells] (.is (.bool false)) rfl (by kernel_rfl) rfl rfl (by intro k hk; cases hk; rfl) (fun W hW => (refahead_any (gd ms i) (gd ms b) false W HAok.out HBok.out HAh.out).mono fun e w' q => ⟨_, q.1, rfl, q.2⟩))
              case c16 => exact runs (ask_pick (guard_none rfl) (.tmp 20) _ _ true rfl rfl (by intro k hk; cases hk; rfl))
            · intro a' W7 hW7 hd7 hs7 hf7
              have t0 : a'.tmps.getD 0 undef = .slice (some ⟨g, 0, none⟩) n cap := hf7 0 rfl
              have t1 : a'.tmps.getD 1 undef = undef := hf7 1 rfl
              have t2 : a'.tmps.getD 2 undef = .slice none 0 0 := hf7 2 rfl
              have t3 : a'.tmps.getD 3 undef = .slice (some ⟨gq, 0, none⟩) (i + 1) cq := hf7 3 rfl
              have t4 : a'.tmps.getD 4 undef = .int .i64 (i : Int) := hf7 4 rfl
              have t5 : a'.tmps.getD 5 undef = .int .i64 (k : Int) := hf7 5 rfl
              have t6 : a'.tmps.getD 6 undef = us0 6 := hf7 6 rfl
              have t7 : a'.tmps.getD 7 undef = us0 7 := hf7 7 rfl
              have t8 : a'.tmps.getD 8 undef = us0 8 := hf7 8 rfl
              have t9 : a'.tmps.getD 9 undef = us0 9 := hf7 9 rfl
              have t10 : a'.tmps.getD 10 undef = us0 10 := hf7 10 rfl
              have t11 : a'.tmps.getD 11 undef = us0 11 := hf7 11 rfl
              have t12 : a'.tmps.getD 12 undef = us0 12 := hf7 12 rfl
              have t13 : a'.tmps.getD 13 undef = us0 13 := hf7 13 rfl
              have t14 : a'.tmps.getD 14 undef = us0 14 := hf7 14 rfl
              have t15 : a'.tmps.getD 15 undef = us0 15 := hf7 15 rfl
              have t16 : a'.tmps.getD 16 undef = us0 16 := hf7 16 rfl
              have t17 : a'.tmps.getD 17 undef = us0 17 := hf7 17 rfl
              have t45 : a'.tmps.getD 45 undef = us0 45 := hf7 45 rfl
              have t46 : a'.tmps.getD 46 undef = us0 46 := hf7 46 rfl
              have t47 : a'.tmps.getD 47 undef = us0 47 := hf7 47 rfl
              have t48 : a'.tmps.getD 48 undef = us0 48 := hf7 48 rfl
              have t49 : a'.tmps.getD 49 undef = undef := hf7 49 rfl
              have t34 : a'.tmps.getD 34 undef = .bool false := hf7 34 rfl
              obtain ⟨us, hus, ha'⟩ := act_open 50 a' hs7 hd7
              rw [← hus] at t0 t1 t2 t3 t4 t5 t6 t7 t8 t9 t10 t11 t12 t13 t14 t15 t16 t17 t45 t46 t47 t48 t49 t34
              have el : ((List.range 50).map us).toArray = #[us 0, us 1, us 2, us 3, us 4, us 5, us 6, us 7, us 8, us 9, us 10, us 11, us 12, us 13, us 14, us 15, us 16, us 17, us 18, us 19, us 20, us 21, us 22, us 23, us 24, us 25, us 26, us 27, us 28, us 29, us 30, us 31, us 32, us 33, us 34, us 35, us 36, us 37, us 38, us 39, us 40, us 41, us 42, us 43, us 44, us 45, us 46, us 47, us 48, us 49] := rfl
              rw [el] at ha'
              subst ha'
              rw [t0, t1, t2, t3, t4, t5, t6, t7, t8, t9, t10, t11, t12, t13, t14, t15, t16, t17, t45, t46, t47, t48, t49, t34]
              clear hus t0 t1 t2 t3 t4 t5 t6 t7 t8 t9 t10 t11 t12 t13 t14 t15 t16 t17 t45 t46 t47 t48 t49 t34 el hf7 hs7 hd7
              have HR7 := Lib.hid hW7.1
              have HB7 := Lib.hid hW7.2
              clear hW7 HR HB
              have hatk : (cu P k c)[k]? = some c := by
                unfold cu
                rw [List.getElem?_append_right (by rw [List.length_take]; have := HPl.out; omega), List.length_take, Nat.min_eq_left (by have := HPl.out; have := HKi.out; omega), Nat.sub_self]
                rfl
              obtain ⟨hcc, hff⟩ := irow_at HR7.out HLen.out.symm k c hatk
              have hidn := fun W => int_index W gq (i + 1) cq k (by have := HKi.out; omega)
              have HNew := Lib.hid (show IRow (W7.setCell ⟨gq, k, none⟩ (nv i)) w.heap.size (.slice (some ⟨gq, 0, none⟩) (i + 1) cq) (cu P k i) by
                have h := irow_set HR7.out HLen.out.symm k i
                rw [cu_set (by have := HPl.out; have := HKi.out; omega)] at h
                exact h)
              have HPn := Lib.hid (show Placed ms (i + 1) (cu P k i) from placed_insert HP.out HKi.out HD.out (fun j hj e => by
                have hj1 : j = k1 := by have := HKk.out; omega
                subst hj1
                rw [← HBe.out]
                exact fun h => by have := HAh.out.2 h; cases this))
              have HBn7 := Lib.hid (show Below w.heap.size w (W7.setCell ⟨gq, k, none⟩ (nv i)) from HB7.out.setCell HGq.out _)
              clear hatk HR7 HB7
              have hlt2 : i < n := HLt.out
              go_wp2
              go_roundw
              case rel => exact ⟨i + 1, cu P k i, hlt2, by go_num, HNew.out, HPn.out, HBn7.out⟩
              case measure => simp [intOf]; omega
    · obtain rfl : i = n := by omega
      go_wp2
      go_ret
      exact ⟨_, P, rfl, HR.out, HP.out, HB.out⟩

end Go.Proofs.Ytoabhnbifbdknaa
