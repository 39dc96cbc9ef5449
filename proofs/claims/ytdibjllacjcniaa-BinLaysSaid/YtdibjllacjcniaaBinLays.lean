/- BinLays: the walk. -/
import Derived.Test.YtdibjllacjcniaaFacts
import Derived.Test.YtdibjllacjcniaaBinOrder
namespace Go.Proofs.Ytdibjllacjcniaa
open Go.RowKit BinMath Reg

set_option maxHeartbeats 1000000 in
theorem lays_walk (n : Nat) (x : Value) (a : Option Addr) (len cap : Nat) (l : List UInt8) (w : World) (hn : n < 18446744073709551616) (hx : x = .slice a len cap) (hv : Bys w (.slice a len cap) l) (hlen : len = l.length) (hl : len ≤ 140737488351232) :
    Calls Try.prog 3 #[.int .u64 n, .slice a len cap] w fun e w' => e = .returned (.bool true) ∧ Below w.heap.size w w' := by
  have HV := Lib.hid hv
  have HN := Lib.hid hlen
  have HX := Lib.hid hx
  clear hv hlen hx
  go_enter Try.func3, Try.ntmps3
  go_wp2_with fail
  refine (lays_any _).mono ?_
  rintro e w1 ⟨rfl, hb1⟩
  have HV1 := Lib.hid (HV.out.below (Nat.le_refl _) hb1)
  have B1 := Lib.hid hb1
  clear hb1
  have A1 := Lib.hid (append_lit (B := w.heap.size) (g := w1.heap.size) (w := w1.alloc (.cells #[] 5)) B1.out.size (heap_alloc_new w1 _) (HV1.out.below (Nat.le_refl _) ((Below.refl _ w1).alloc (Nat.le_refl _) _)) (by rw [← HN.out]; omega))
  go_wp2_with (at_builtin; refine wpList_append_by rfl (.tmp 8) (.tmp 9) 23 rfl _ _ rfl rfl _ A1.out ?_)
  rintro v10 w2 hr10 hb2
  have hsz2 : w1.heap.size + 1 ≤ w2.heap.size := by have := hb2.size; simpa using this
  have A2 := Lib.hid (append_bys (w := w2.alloc (.cells #[bv 7] 5)) (B := w.heap.size) (by have := B1.out.size; simp; omega) (hr10.below ((Below.refl _ w2).alloc (Nat.le_refl _) _)) (byte_bys w2 7) (by rw [← HN.out]; simp; omega))
  have R10 := Lib.hid hr10
  have B2 := Lib.hid hb2
  clear hr10 hb2
  go_wp2_with (at_builtin; refine wpList_append_by rfl (.tmp 10) (.tmp 11) 23 rfl _ _ rfl rfl _ A2.out ?_)
  rintro v12 w3 hr12 hg3'
  have hb3 : Below w.heap.size w w3 := ((B1.out.trans (((Below.refl _ w1).alloc (Nat.le_refl _) (.cells #[] 5)).mono B1.out.size)).trans ((B2.out).mono (by have := B1.out.size; simp; omega))).trans (((Below.refl _ w2).alloc (Nat.le_refl _) (.cells #[bv 7] 5)).mono (by have := B1.out.size; omega)) |>.grown hg3' (by have := B1.out.size; simp; omega) (fun k hk => (R10.out.lt k hk).1)
  clear hg3'
  obtain ⟨g, c, hv12, hBg, hg3, hc, hcm⟩ := hr12.shape (by simp)
  have e12 : (l ++ [(7 : UInt8)]).length = len + 1 := by rw [List.length_append, HN.out]; rfl
  rw [e12] at hv12 hc
  subst hv12
  have R12 := Lib.hid hr12
  have B3 := Lib.hid hb3
  have E12 := Lib.hid e12
  clear hr12 hb3 e12
  go_wp2
  have hb : ∀ W, Below w3.heap.size w3 W → Bys W (.slice a len cap) l := fun W hW => (HV.out.below (Nat.le_refl _) B3.out).below (Nat.le_refl _) hW
  have hr : ∀ W, Below w3.heap.size w3 W → Row W w.heap.size (.slice (some ⟨g, 0, none⟩) (len + 1) c) (l ++ [7]) := fun W hW => R12.out.below hW
  have hm : ∀ W, Below w3.heap.size w3 W → Bys W (.slice (some ⟨g, 0, none⟩) len c) l := fun W hW => by
    have h := hr W hW
    rw [← E12.out] at h
    have h2 := h.bys_take len (by rw [E12.out]; omega)
    have e : (l ++ [(7 : UInt8)]).take len = l := by rw [HN.out]; simp
    rwa [e] at h2
  have hm1 : ∀ W, Below w3.heap.size w3 W → Bys W (.slice (some ⟨g, 0, none⟩) (len + 1) c) (l ++ [7]) := fun W hW => by
    have h := (hr W hW).bys
    exact h
  have hll : l.length ≤ 140737488351232 := by rw [← HN.out]; exact hl
  have hG : ∀ W W' : World, Below w3.heap.size w3 W → Below W.heap.size W W' → Below w3.heap.size w3 W' := fun W W' h h' => h.trans (h'.mono h.size)
  refine region_by [(16, .is (.int .u64 (n : Int))), (17, .bys (numL n)), (18, .is (.string ⟨(numL n).toArray⟩)), (19, .is (.int .u64 (n : Int))), (20, .bys (numL n)), (21, .is (.string ⟨(numL n).toArray⟩)), (22, .is (.bool true)), (23, .is (.bool true)), (24, .is (.slice (some ⟨g, 0, none⟩) len c)), (25, .bys (rawL l)), (26, .is (.string ⟨(rawL l).toArray⟩)), (27, .is (.slice a len cap)), (28, .bys (rawL l)), (29, .is (.string ⟨(rawL l).toArray⟩)), (30, .is (.bool true)), (31, .is (.bool true)), (32, .is (.bool true)), (33, .is (.slice (some ⟨g, 0, none⟩) len c)), (34, .is (.slice a len cap)), (35, .is (.int .i64 (len : Int))), (36, .is (.int .i64 ((len : Int) + 1))), (37, .is (.slice (some ⟨g, 0, none⟩) (len + 1) c)), (38, .is (.string ⟨(l ++ [7]).toArray⟩)), (39, .lit w3.heap.size), (40, .is (.slice a len cap)), (41, .row w3.heap.size l), (42, .bys [7]), (43, .bys (l ++ [7])), (44, .is (.string ⟨(l ++ [7]).toArray⟩)), (45, .is (.bool true)), (46, .is (.bool true)), (4, .is (.bool true))] [4] (fun W => Below w3.heap.size w3 W) (by kernel_rfl) (by kernel_rfl) (by kernel_rfl) (by kernel_rfl) (by kernel_rfl) ((Below.refl _ _).drew) ?_ ?_
  · refine ⟨?a0, ?a1, ?a2, ?a3, ?a4, ?a5, ?a6, ?a7, ?a8, ?a9, ?a10, ?a11, ?a12, ?a13, ?a14, ?a15, ?a16, ?a17, ?a18, ?a19, ?a20, ?a21, ?a22, ?a23, ?a24, ?a25, ?a26, ?a27, ?a28, ?a29, ?a30, ?a31, trivial⟩
    case a0 => -- 16 := Op.move t0
      exact ask_copy (guard_none rfl) (.tmp 0) (.inl rfl) (by intro k hk; cases hk; rfl)
    case a1 => -- 17 := Op.call { value (Operand.func 9), args := #[t16], argTypes := #[22] }
      exact ask_call hG (guard_none rfl) _ _ _ #[.int .u64 (n : Int)] (.bys (numL n)) rfl (by kernel_rfl) rfl rfl (by intro k hk; cases hk; rfl) (fun W hW => (num_any n W hn).mono fun e w' ⟨v, h1, h2, h3⟩ => ⟨v, h1, h2.bys, h3⟩)
    case a2 => -- 18 := Op.convert 23 9 t17
      exact ask_string (guard_none rfl) _ (numL n) (.inl rfl) rfl (by intro k hk; cases hk; rfl)
    case a3 => -- 19 := Op.move t0
      exact ask_copy (guard_none rfl) (.tmp 0) (.inl rfl) (by intro k hk; cases hk; rfl)
    case a4 => -- 20 := Op.call { value (Operand.func 10), args := #[t19], argTypes := #[22] }
      exact ask_call hG (guard_none rfl) _ _ _ #[.int .u64 (n : Int)] (.bys (numL n)) rfl (by kernel_rfl) rfl rfl (by intro k hk; cases hk; rfl) (fun W hW => (refnum_any n W hn).mono fun e w' ⟨v, h1, h2, h3⟩ => ⟨v, h1, h2.bys, h3⟩)
    case a5 => -- 21 := Op.convert 23 9 t20
      exact ask_string (guard_none rfl) _ (numL n) (.inl rfl) rfl (by intro k hk; cases hk; rfl)
    case a6 => -- 22 := Op.binOp BinOp.eql 9 t18 t21 9
      exact ask_same (guard_none rfl) _ _ _ _ _ rfl rfl rfl (by intro k hk; cases hk; rfl)
    case a7 => -- 23 := Op.move t22
      exact ask_copy (guard_none rfl) (.tmp 22) (.inl rfl) (by intro k hk; cases hk; rfl)
    case a8 => -- 24 := Op.move t5
      exact ask_copy (guard_some rfl rfl rfl) (.tmp 5) (.inl rfl) (by intro k hk; cases hk; rfl)
    case a9 => -- 25 := Op.call { value (Operand.func 11), args := #[t24], argTypes := #[23] }
      exact ask_call hG (guard_some rfl rfl rfl) _ _ _ #[.slice (some ⟨g, 0, none⟩) len c] (.bys (rawL l)) rfl (by kernel_rfl) rfl rfl (by intro k hk; cases hk; rfl) (fun W hW => (raw_any _ l W (hm W hW) hll).mono fun e w' ⟨v, h1, h2, h3⟩ => ⟨v, h1, h2.bys, h3⟩)
    case a10 => -- 26 := Op.convert 23 9 t25
      exact ask_string (guard_some rfl rfl rfl) _ (rawL l) (.inl rfl) rfl (by intro k hk; cases hk; rfl)
    case a11 => -- 27 := Op.move t1
      exact ask_copy (guard_some rfl rfl rfl) (.tmp 1) (.inl rfl) (by intro k hk; cases hk; rfl)
    case a12 => -- 28 := Op.call { value (Operand.func 12), args := #[t27], argTypes := #[23] }
      exact ask_call hG (guard_some rfl rfl rfl) _ _ _ #[.slice a len cap] (.bys (rawL l)) rfl (by kernel_rfl) rfl rfl (by intro k hk; cases hk; rfl) (fun W hW => (refraw_any _ l W (hb W hW) hll).mono fun e w' ⟨v, h1, h2, h3⟩ => ⟨v, h1, h2.bys, h3⟩)
    case a13 => -- 29 := Op.convert 23 9 t28
      exact ask_string (guard_some rfl rfl rfl) _ (rawL l) (.inl rfl) rfl (by intro k hk; cases hk; rfl)
    case a14 => -- 30 := Op.binOp BinOp.eql 9 t26 t29 9
      exact ask_same (guard_some rfl rfl rfl) _ _ _ _ _ rfl rfl rfl (by intro k hk; cases hk; rfl)
    case a15 => -- 31 := Op.pick t23 t30 (const (Value.bool false))
      exact ask_pick (guard_none rfl) _ _ _ true rfl rfl (by intro k hk; cases hk; rfl)
    case a16 => -- 32 := Op.move t31
      exact ask_copy (guard_none rfl) (.tmp 31) (.inl rfl) (by intro k hk; cases hk; rfl)
    case a17 => -- 33 := Op.move t5
      exact ask_copy (guard_some rfl rfl rfl) (.tmp 5) (.inl rfl) (by intro k hk; cases hk; rfl)
    case a18 => -- 34 := Op.move t1
      exact ask_copy (guard_some rfl rfl rfl) (.tmp 1) (.inl rfl) (by intro k hk; cases hk; rfl)
    case a19 => -- 35 := Op.call { builtin len, args := #[t34], argTypes := #[23] }
      exact ask_len (guard_some rfl rfl rfl) _ _ a len cap rfl Try.underlying23 rfl (by intro k hk; cases hk; rfl)
    case a20 => -- 36 := Op.binOp BinOp.add 3 t35 (const (1:i64)) 3
      exact ask_bin (guard_some rfl rfl rfl) _ _ _ _ _ _ _ _ rfl rfl rfl (by intro k hk; cases hk; rfl) (fun W => by simp [eqGuard, go_sem]; exact IntWalk.i64_in _ ⟨by omega, by omega⟩)
    case a21 => -- 37 := Op.slice 23 t33 none (some t36) none
      exact ask_slice (guard_some rfl rfl rfl) _ _ _ _ _ _ _ none (some (.int .i64 ((len : Int) + 1))) none rfl rfl rfl rfl rfl (by intro k hk; cases hk; rfl) (fun W => slice_to (some ⟨g, 0, none⟩) len c (len + 1) hc W)
    case a22 => -- 38 := Op.convert 23 9 t37
      exact ask_string_is (guard_some rfl rfl rfl) _ _ (l ++ [7]) rfl hm1 rfl (by intro k hk; cases hk; rfl)
    case a23 => -- 39 := Op.buildSlice 23 0 #[]
      exact ask_build_lit hG (guard_some rfl rfl rfl) w3.heap.size (fun W hW => hW.size) rfl (by intro k hk; cases hk; rfl)
    case a24 => -- 40 := Op.move t1
      exact ask_copy (guard_some rfl rfl rfl) (.tmp 1) (.inl rfl) (by intro k hk; cases hk; rfl)
    case a25 => -- 41 := Op.call { builtin append, args := #[t39, t40], argTypes := #[23, 23] }
      exact ask_append_lit hG (guard_some rfl rfl rfl) _ _ w3.heap.size l rfl rfl rfl (fun x W hW hk => by have e : x 40 = _ := hk 40 rfl; show Bys W (x 40) l; rw [e]; exact hb W hW) (by omega) (by intro k hk; cases hk; exact .inl rfl)
    case a26 => -- 42 := Op.buildSlice 23 1 #[(0, const (7:u8))]
      exact ask_build_one hG (guard_some rfl rfl rfl) _ 7 rfl rfl (by intro k hk; cases hk; rfl)
    case a27 => -- 43 := Op.call { builtin append, args := #[t41, t42], argTypes := #[23, 23] }
      exact ask_append_row (guard_some rfl rfl rfl) (by kernel_rfl) _ _ w3.heap.size l [7] rfl rfl rfl (fun x W hW hk => hk 42 rfl) (by simp; omega) (fun W hW => hW.size) (fun W W' row hW hg hr => hW.grown hg hW.size hr) (by intro k hk; cases hk; exact .inr rfl)
    case a28 => -- 44 := Op.convert 23 9 t43
      exact ask_string (guard_some rfl rfl rfl) _ (l ++ [7]) (.inl rfl) rfl (by intro k hk; cases hk; rfl)
    case a29 => -- 45 := Op.binOp BinOp.eql 9 t38 t44 9
      exact ask_same (guard_some rfl rfl rfl) _ _ _ _ _ rfl rfl rfl (by intro k hk; cases hk; rfl)
    case a30 => -- 46 := Op.pick t32 t45 (const (Value.bool false))
      exact ask_pick (guard_none rfl) _ _ _ true rfl rfl (by intro k hk; cases hk; rfl)
    case a31 => -- 4 := Op.assign t46
      exact ask_copy (guard_none rfl) (.tmp 46) (.inr rfl) (by intro k hk; cases hk; rfl)
  · intro a' W hW hd hs hf
    have h4 : a'.tmps.getD 4 undef = .bool true := hf 4 rfl
    have hd0 : a'.defers = [] := hd
    go_wp2
    refine bodyPost_ret (v := .bool true) ?_ hd0 ⟨rfl, B3.out.trans (hW.mono B3.out.size)⟩
    rw [← h4]
    exact results_tmp rfl _ _ _

/-- The walk at what came in. -/
theorem lays_all (w : World) (x : Int) (wx : (Lit.int .u64 x).wf = true) (a : Option Addr) (len cap : Nat) (z : List Int) (wz : IsRow .u8 w a len cap z) (sz : cap * 1 ≤ 140737488351232) :
    Calls Try.prog 3 #[.int .u64 x, .slice a len cap] w fun e w' => e = .returned (.bool true) ∧ Below w.heap.size w w' := by
  obtain ⟨m, rfl, hm⟩ := nat_u64 x wx
  obtain ⟨l, hl, hb⟩ := wz.bys
  have hlc := wz.le
  exact lays_walk m _ a len cap l w hm rfl hb hl.symm (by omega)

end Go.Proofs.Ytdibjllacjcniaa
