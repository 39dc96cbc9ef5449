/- The program's nodes. -/
import Derived.Test.YtbabpbdenebagaaDoorLeafWrote
import Derived.Test.YtbabpbdenebagaaDoorLeafAsk
namespace Go.Proofs.YtbabpbdenebagaaDoor
set_option maxRecDepth 20000
open Go.RowKit ShaMath LeafMath Reg

/-- A state that has taken a text. -/
def stF (l : List UInt8) : Fact := .sat (fun v _ => IsState v l) (fun _ _ _ h _ => h)

section
variable {ops : Array Oper} {tab : List (List Nat)} {fin : List Tmp} {G : World → Prop} {f : Tmp → Fact} {i : Nat} {o : Oper}
theorem ask_build0 (hg : guardOk ops f o) (ty : TypeId) (c : Value) (ho : o.op = .build ty #[]) (hd : ∀ k, o.dst = some k → f k = .is c)
    (hr : ∀ W, (Instr.build ty #[]).run Tryd.prog W = .ok c W) : Asked Tryd.prog ops tab fin G f i o := by
  refine ask_val hg c hd fun y W _ _ => ?_
  simp [execOp, ho, hr W, Result.andThen]
end

set_option maxRecDepth 100000 in
theorem node_any (n : Int) (l r : List UInt8) (w : World) (hn : I64 n) (hl : l.length = 32) (hr : r.length = 32) (ht : Tabs w) :
    Calls Tryd.prog 14 #[.int .i64 n, .agg (bs l), .agg (bs r)] w fun e w' => e = .returned (.agg (bs (nodeH n l r))) ∧ Below w.heap.size w w' := by
  obtain ⟨h0, hh0⟩ : ∃ h0, h0 = ShaMath.hash (1 :: (l ++ r)) := ⟨_, rfl⟩
  obtain ⟨cs, hcs, hcs1, hone⟩ := hash_cells (nodeH n l r) (nodeH_length _ _ _)
  have HNar := Lib.hid (fun W => narrow_any h0 n W (by rw [hh0]; exact hash_length _) hn)
  rw [show narrowL h0 n = nodeH n l r by rw [hh0]; rfl, ← hcs] at HNar
  have HWr := Lib.hid (fun (v : Value) (t m : List UInt8) (a : Option Addr) (len cap : Nat) (W : World) (h : IsState v t) (hm : Bys W (.slice a len cap) m) (hc : len ≤ cap) (hk : t.length + m.length ≤ 1152921504606846976) (hb : Below w.heap.size w W) => write_any v t m a len cap W h hm hc hk (ht.below (Nat.le_refl _) hb).1 (ht.below (Nat.le_refl _) hb).2)
  have HSm := Lib.hid (fun (v : Value) (W : World) (h : IsState v ([1] ++ l ++ r)) (hb : Below w.heap.size w W) => stateSum_any v ([1] ++ l ++ r) W h (by simp [hl, hr]) (ht.below (Nat.le_refl _) hb).1 (ht.below (Nat.le_refl _) hb).2)
  rw [show ShaMath.hash ([1] ++ l ++ r) = h0 by rw [hh0]; rfl] at HSm
  rw [← hcs]
  have HSz := Lib.hid (size_hash hcs1)
  have HOne := Lib.hid hone
  have HCl := Lib.hid hcs1
  have HL := Lib.hid hl
  have HR := Lib.hid hr
  have h1 := Two32.new w l r
  obtain ⟨cl, hcl⟩ : ∃ cl, cl = bs l := ⟨_, rfl⟩
  obtain ⟨cr, hcr⟩ : ∃ cr, cr = bs r := ⟨_, rfl⟩
  rw [← hcl, ← hcr] at h1 ⊢
  have H1 := Lib.hid h1
  obtain ⟨zc, hzc⟩ : ∃ zc, zc = zeroState := ⟨_, rfl⟩
  have HZv := Lib.hid (show ∀ W, (zeroValue 53).run Tryd.prog W = .ok (.agg zc) W from fun W => by rw [hzc]; kernel_rfl)
  have HZb := Lib.hid (show ∀ W, (Instr.build 53 #[]).run Tryd.prog W = .ok (.agg zc) W from fun W => by rw [hzc]; kernel_rfl)
  have HI : Hid (IsState (.agg zc) []) := Lib.hid ⟨List.replicate 8 0#32, List.replicate 64 0, by rw [hzc]; rfl, goodS_nil⟩
  have HZ73 := Lib.hid (show zc.size = 73 by rw [hzc]; kernel_rfl)
  clear hn ht hh0 hcs hcs1 hone hl hr h1 hcl hcr hzc
  go_enter Tryd.func14, Tryd.ntmps14
  go_upto_region 1 with fail
  have h2 : Two32 w l r (((w.alloc (.cells cl 24)).alloc (.cells cr 24)).alloc (.cells (bs (List.replicate 32 0)) 24)) := H1.out.keep ((Below.refl _ _).alloc (Nat.le_refl _) _)
  refine world_cut (fun W => Two32 w l r W ∧ Blk W (w.heap.size + 2) 24 (bs (List.replicate 32 0))) ⟨h2, Blk.newAt _ _ _ _ _ (by simp) rfl⟩ ?_
  clear h2 H1
  intro W1 hW1
  have hG : ∀ W W' : World, (Two32 w l r W ∧ Blk W (w.heap.size + 2) 24 (bs (List.replicate 32 0))) → Below W.heap.size W W' → (Two32 w l r W' ∧ Blk W' (w.heap.size + 2) 24 (bs (List.replicate 32 0))) := fun W W' h h' => ⟨h.1.keep h', h.2.keep h'⟩
  have hB : ∀ W, (Two32 w l r W ∧ Blk W (w.heap.size + 2) 24 (bs (List.replicate 32 0))) → w.heap.size + 3 ≤ W.heap.size := fun W h => h.2.lt
  refine region_late_by 8 _ _ rfl [(8, .is (.agg zc)), (9, .row (w.heap.size + 3) [1]), (10, stF [1]), (11, .is (.slice (some ⟨w.heap.size, 0, none⟩) 32 32)), (12, stF ([1] ++ l)), (13, .is (.slice (some ⟨w.heap.size + 1, 0, none⟩) 32 32)), (14, stF ([1] ++ l ++ r)), (7, varF (w.heap.size + 3) 53 zc)] [0, 6, 7, 14]
    (fun W => Two32 w l r W ∧ Blk W (w.heap.size + 2) 24 (bs (List.replicate 32 0))) (by kernel_rfl) (by kernel_rfl) (by kernel_rfl) (by kernel_rfl) (fun k fk hk => .inl (lookup_ops (by kernel_rfl) hk)) rfl rfl rfl (by kernel_rfl) (hG _ _ hW1 (Below.refl _ _).drew) ?_ ?_
  · refine ⟨?a0, ?a1, ?a2, ?a3, ?a4, ?a5, ?a6, ?a7, trivial⟩
    case a0 => exact Asked.late (ask_build0 (guard_none rfl) _ (.agg zc) rfl (by intro k hk; cases hk; rfl) HZb.out)
    case a1 => exact Asked.late (ask_build_row hG (guard_none rfl) _ 1 _ hB rfl rfl (by intro k hk; cases hk; rfl))
    case a2 => exact Asked.late (ask_call_by hG (guard_none rfl) _ _ _ (stF [1]) rfl (by kernel_rfl) (by intro k hk; cases hk; rfl) (fun x W hW hk => by
      have e8 : x 8 = .agg zc := hk 8 rfl
      have e9 : Row W (w.heap.size + 3) (x 9) [1] := hk 9 rfl
      show Calls _ _ #[x 8, x 9] W _
      rw [e8]
      obtain ⟨a9, n9, c9, e, hc9, hb9⟩ := e9.sliceOf (by decide)
      rw [e] at hb9 ⊢
      refine (HWr.out (.agg zc) [] [1] a9 n9 c9 W HI.out hb9 hc9 (by decide) hW.1.2.2).mono ?_
      rintro e w' ⟨v, h1, h2, h3⟩
      exact ⟨v, h1, h2, h3⟩))
    case a3 => exact Asked.late (ask_slice (guard_none rfl) 24 (.tmp 4) none none none (.pointer (some ⟨w.heap.size, 0, none⟩)) (.slice (some ⟨w.heap.size, 0, none⟩) 32 32) none none none rfl rfl rfl rfl rfl (by intro k hk; cases hk; rfl) (fun W => slice_h32 _ W))
    case a4 => exact Asked.late (ask_call_by hG (guard_none rfl) _ _ _ (stF ([1] ++ l)) rfl (by kernel_rfl) (by intro k hk; cases hk; rfl) (fun x W hW hk => by
      have e10 : IsState (x 10) [1] := hk 10 rfl
      have e11 : x 11 = .slice (some ⟨w.heap.size, 0, none⟩) 32 32 := hk 11 rfl
      show Calls _ _ #[x 10, x 11] W _
      rw [e11]
      refine (HWr.out (x 10) [1] l _ 32 32 W e10 (blk_bys hW.1.1 HL.out) (Nat.le_refl _) (by rw [HL.out]; decide) hW.1.2.2).mono ?_
      rintro e w' ⟨v, h1, h2, h3⟩
      exact ⟨v, h1, h2, h3⟩))
    case a5 => exact Asked.late (ask_slice (guard_none rfl) 24 (.tmp 5) none none none (.pointer (some ⟨w.heap.size + 1, 0, none⟩)) (.slice (some ⟨w.heap.size + 1, 0, none⟩) 32 32) none none none rfl rfl rfl rfl rfl (by intro k hk; cases hk; rfl) (fun W => slice_h32 _ W))
    case a6 => exact Asked.late (ask_call_by hG (guard_none rfl) _ _ _ (stF ([1] ++ l ++ r)) rfl (by kernel_rfl) (by intro k hk; cases hk; rfl) (fun x W hW hk => by
      have e12 : IsState (x 12) ([1] ++ l) := hk 12 rfl
      have e13 : x 13 = .slice (some ⟨w.heap.size + 1, 0, none⟩) 32 32 := hk 13 rfl
      show Calls _ _ #[x 12, x 13] W _
      rw [e13]
      refine (HWr.out (x 12) ([1] ++ l) r _ 32 32 W e12 (blk_bys hW.1.2.1 HR.out) (Nat.le_refl _) (by rw [List.length_append, HL.out, HR.out]; decide) hW.1.2.2).mono ?_
      rintro e w' ⟨v, h1, h2, h3⟩
      exact ⟨v, h1, h2, h3⟩))
    case a7 => exact Asked.late (ask_alloc hG (guard_none rfl) _ (.agg zc) (varF (w.heap.size + 3) 53 zc) rfl HZv.out (by intro k hk; cases hk; rfl) (fun W hW => ⟨_, rfl, hB W hW, Blk.new W _ _⟩))
  intro a' W3 hW hd' hs' hf'
  have t7 : ∃ g, a'.tmps.getD 7 undef = .pointer (some ⟨g, 0, none⟩) ∧ w.heap.size + 3 ≤ g ∧ Blk W3 g 53 zc := hf' 7 rfl
  have t14 : IsState (a'.tmps.getD 14 undef) ([1] ++ l ++ r) := hf' 14 rfl
  have t0 : a'.tmps.getD 0 undef = .int .i64 n := hf' 0 rfl
  have t6 : a'.tmps.getD 6 undef = .pointer (some ⟨w.heap.size + 2, 0, none⟩) := hf' 6 rfl
  obtain ⟨us', hus, ha'⟩ := act_open 19 a' hs' hd'
  rw [← hus] at t7 t14 t0 t6
  obtain ⟨g7, e7, hg7, hb7⟩ := t7
  obtain ⟨st, e14, hst, hso⟩ := t14.cells
  rw [e14] at t14
  have el : ((List.range 19).map us').toArray = #[.int .i64 n, us' 1, us' 2, us' 3, us' 4, us' 5, .pointer (some ⟨w.heap.size + 2, 0, none⟩), .pointer (some ⟨g7, 0, none⟩), us' 8, us' 9, us' 10, us' 11, us' 12, us' 13, .agg st, us' 15, us' 16, us' 17, us' 18] := by
    show #[us' 0, us' 1, us' 2, us' 3, us' 4, us' 5, us' 6, us' 7, us' 8, us' 9, us' 10, us' 11, us' 12, us' 13, us' 14, us' 15, us' 16, us' 17, us' 18] = _
    rw [t0, t6, e7, e14]
  rw [el] at ha'
  subst ha'
  clear hus t0 t6 e7 e14 el hf' hs' hd' hG hB hW1
  have HW3 := Lib.hid hW
  have HG7 := Lib.hid hg7
  have HB7 := Lib.hid hb7
  have HV := Lib.hid t14
  have HSs := Lib.hid (size_state hst)
  have HSt := Lib.hid hst
  have HSo := Lib.hid hso
  clear hW hg7 hb7 t14 hst hso HZv HZb HI
  go_upto_region 2 with (refine wpList_store_row rfl 53 (.tmp 7) (.tmp 14) rfl g7 st rfl rfl 53 _ HB7.out HSs.out (by rw [HZ73.out, HSt.out]) HSo.out ?_)
  refine world_cut (fun W => Blk W g7 53 st ∧ Blk W (w.heap.size + 2) 24 (bs (List.replicate 32 0)) ∧ Below w.heap.size w W) ⟨Blk.row HB7.out _, HW3.out.2.rowOther _ (by have := HG7.out; omega), below_setRow HW3.out.1.2.2 _ _ (by have := HG7.out; omega)⟩ ?_
  rintro W ⟨k1, k2, k3⟩
  have K1 := Lib.hid k1
  have K2 := Lib.hid k2
  have K3 := Lib.hid k3
  clear k1 k2 k3 HW3 HB7
  go_wp2_with (refine wpList_load_row rfl 53 (.tmp 7) rfl g7 rfl _ _ _ _ K1.out Tryd.underlying53 rfl HSs.out ?_)
  refine (HSm.out _ _ HV.out K3.out).mono ?_
  rintro e w3 ⟨rfl, hb⟩
  have HB3 := Lib.hid (K3.out.trans (hb.mono K3.out.size))
  have HZ3 := Lib.hid (K2.out.keep hb)
  clear hb K1 K2 K3
  go_wp2_with fail
  refine (HNar.out _).mono ?_
  rintro e w4 ⟨rfl, hb⟩
  have HB4 := Lib.hid (HB3.out.trans (hb.mono HB3.out.size))
  have HZ4 := Lib.hid (HZ3.out.keep hb)
  clear hb HB3 HZ3
  go_wp2_with (refine wpList_store_row rfl 24 (.tmp 6) (.tmp 18) rfl (w.heap.size + 2) cs rfl rfl 24 _ HZ4.out HSz.out (by rw [HCl.out]; rfl) HOne.out ?_)
  exact bodyPost_ret (v := .agg cs) (results_cell_row rfl _ _ (w.heap.size + 2) 24 cs (0, 0) _ rfl (Blk.row HZ4.out cs) Tryd.underlying24 rfl HSz.out) rfl ⟨rfl, below_setRow HB4.out _ _ (by omega)⟩
end Go.Proofs.YtbabpbdenebagaaDoor
