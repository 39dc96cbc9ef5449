/- Joined: LeafWrote, LeafNode, LeafRoot, LeafProgram. -/
import Derived.Test.YtnglgeaoakimpaaDoorKM
import Derived.Test.YtnglgeaoakimpaaDoorShaTabs
import Derived.Test.YtnglgeaoakimpaaDoorLeafAskJ
import Derived.Test.YtnglgeaoakimpaaDoorKB
import Derived.Test.YtnglgeaoakimpaaDoorLeafSpecJ
/- The program's empty root, its leaves and its nodes. -/
namespace Go.Proofs.YtnglgeaoakimpaaDoor
set_option maxRecDepth 20000
open Go.RowKit ShaMath LeafMath Reg

theorem IsState.cells {v : Value} {l : List UInt8} (h : IsState v l) : ∃ cs : Array Value, v = .agg cs ∧ cs.size = 73 ∧ cs.all (·.oneCell') = true := by
  obtain ⟨hh, r, rfl, hg⟩ := h
  exact ⟨_, rfl, stC_size _ hg.1 hg.2.1, stC_one _ _ _⟩
theorem size_state {cs : Array Value} (h : cs.size = 73) : (Tryd.prog.info? 55).map (·.size) = some cs.size := by rw [h]; kernel_rfl

set_option maxRecDepth 100000 in
theorem empty_any (n : Int) (w : World) (hn : I64 n) (ht : Tabs w) :
    Calls Tryd.prog 36 #[.int .i64 n] w fun e w' => e = .returned (.agg (bs (emptyH n))) ∧ Below w.heap.size w w' := by
  have hb0 : ∀ o, Below w.heap.size w (w.alloc o) := fun o => (Below.refl _ _).alloc (Nat.le_refl _) o
  obtain ⟨h0, hh0⟩ : ∃ h0, h0 = ShaMath.hash [] := ⟨_, rfl⟩
  obtain ⟨cs, hcs, hcl, hone⟩ := hash_cells (emptyH n) (emptyH_length _)
  have HSum := Lib.hid (fun o => sum_any [] none 0 0 (w.alloc o) (.inl ⟨rfl, rfl⟩) (Nat.le_refl _) (by decide) (ht.below (Nat.le_refl _) (hb0 o)).1 (ht.below (Nat.le_refl _) (hb0 o)).2)
  have HNar := Lib.hid (fun W => narrow_any h0 n W (by rw [hh0]; exact hash_length []) hn)
  rw [show narrowL h0 n = emptyH n by rw [hh0]; rfl, ← hcs] at HNar
  rw [← hh0] at HSum
  rw [← hcs]
  have HB0 := Lib.hid hb0
  have HSz := Lib.hid (size_hash hcl)
  have HOne := Lib.hid hone
  have HCl := Lib.hid hcl
  clear hn ht hh0 hcs hcl hone hb0
  go_enter Tryd.func36, Tryd.ntmps36
  go_wp2_with fail
  refine (HSum.out _).mono ?_
  rintro e w1 ⟨rfl, hb1⟩
  have HB1 := Lib.hid hb1
  clear hb1 HSum
  go_wp2_with fail
  refine (HNar.out _).mono ?_
  rintro e w2 ⟨rfl, hb2⟩
  have HB2 := Lib.hid (HB1.out.trans (hb2.mono HB1.out.size))
  clear hb2 HNar HB1
  go_wp2_with (refine wpList_store_row rfl 23 (.tmp 2) (.tmp 5) rfl w.heap.size cs rfl rfl 23 _ ((Blk.new w _ _).keep HB2.out) HSz.out (by rw [HCl.out]; rfl) HOne.out ?_)
  exact bodyPost_ret (v := .agg cs) (results_cell_row rfl _ _ w.heap.size 23 cs (0, 0) _ rfl (Blk.row ((Blk.new w _ _).keep HB2.out) cs) Tryd.underlying23 rfl HSz.out) rfl ⟨rfl, below_setRow ((HB0.out _).trans (HB2.out.mono (by simp))) _ _ (Nat.le_refl _)⟩

end Go.Proofs.YtnglgeaoakimpaaDoor

/- The program's nodes. -/
namespace Go.Proofs.YtnglgeaoakimpaaDoor
set_option maxRecDepth 20000
open Go.RowKit ShaMath LeafMath Reg

/-- A state that has taken a text. -/
def stF (l : List UInt8) : Fact := .sat (fun v _ => IsState v l) (fun _ _ _ h _ => h)

section
variable {ops : Array Oper} {tab : List (List Nat)} {fin : List Tmp} {G : World → Prop} {f : Tmp → Fact} {i : Nat} {o : Oper}
theorem ask_build0 (hg : guardOk ops f o) (ty : TypeId) (c : Value) (ho : o.op = .build ty #[]) (hd : ∀ k, o.dst = some k → f k = .is c)
    (hr : ∀ W, (Instr.build ty #[]).run Tryd.prog W = .ok c W) : Asked Tryd.prog ops tab fin G f i o := by
  refine ask_val hg c hd fun y W _ _ => ?_
  simp [execOp, ho, hr W, Result.andThen]
end

set_option maxRecDepth 100000 in
theorem node_any (n : Int) (l r : List UInt8) (w : World) (hn : I64 n) (hl : l.length = 32) (hr : r.length = 32) (ht : Tabs w) :
    Calls Tryd.prog 20 #[.int .i64 n, .agg (bs l), .agg (bs r)] w fun e w' => e = .returned (.agg (bs (nodeH n l r))) ∧ Below w.heap.size w w' := by
  obtain ⟨h0, hh0⟩ : ∃ h0, h0 = ShaMath.hash (1 :: (l ++ r)) := ⟨_, rfl⟩
  obtain ⟨cs, hcs, hcs1, hone⟩ := hash_cells (nodeH n l r) (nodeH_length _ _ _)
  have HNar := Lib.hid (fun W => narrow_any h0 n W (by rw [hh0]; exact hash_length _) hn)
  rw [show narrowL h0 n = nodeH n l r by rw [hh0]; rfl, ← hcs] at HNar
  have HWr := Lib.hid (fun (v : Value) (t m : List UInt8) (a : Option Addr) (len cap : Nat) (W : World) (h : IsState v t) (hm : Bys W (.slice a len cap) m) (hc : len ≤ cap) (hk : t.length + m.length ≤ 1152921504606846976) (hb : Below w.heap.size w W) => write_any v t m a len cap W h hm hc hk (ht.below (Nat.le_refl _) hb).1 (ht.below (Nat.le_refl _) hb).2)
  have HSm := Lib.hid (fun (v : Value) (W : World) (h : IsState v ([1] ++ l ++ r)) (hb : Below w.heap.size w W) => stateSum_any v ([1] ++ l ++ r) W h (by simp [hl, hr]) (ht.below (Nat.le_refl _) hb).1 (ht.below (Nat.le_refl _) hb).2)
  rw [show ShaMath.hash ([1] ++ l ++ r) = h0 by rw [hh0]; rfl] at HSm
  rw [← hcs]
  have HSz := Lib.hid (size_hash hcs1)
  have HOne := Lib.hid hone
  have HCl := Lib.hid hcs1
  have HL := Lib.hid hl
  have HR := Lib.hid hr
  have h1 := Two32.new w l r
  obtain ⟨cl, hcl⟩ : ∃ cl, cl = bs l := ⟨_, rfl⟩
  obtain ⟨cr, hcr⟩ : ∃ cr, cr = bs r := ⟨_, rfl⟩
  rw [← hcl, ← hcr] at h1 ⊢
  have H1 := Lib.hid h1
  obtain ⟨zc, hzc⟩ : ∃ zc, zc = zeroState := ⟨_, rfl⟩
  have HZv := Lib.hid (show ∀ W, (zeroValue 55).run Tryd.prog W = .ok (.agg zc) W from fun W => by rw [hzc]; kernel_rfl)
  have HZb := Lib.hid (show ∀ W, (Instr.build 55 #[]).run Tryd.prog W = .ok (.agg zc) W from fun W => by rw [hzc]; kernel_rfl)
  have HI : Hid (IsState (.agg zc) []) := Lib.hid ⟨List.replicate 8 0#32, List.replicate 64 0, by rw [hzc]; rfl, goodS_nil⟩
  have HZ73 := Lib.hid (show zc.size = 73 by rw [hzc]; kernel_rfl)
  clear hn ht hh0 hcs hcs1 hone hl hr h1 hcl hcr hzc
  go_enter Tryd.func20, Tryd.ntmps20
  go_upto_region 1 with fail
  have h2 : Two32 w l r (((w.alloc (.cells cl 23)).alloc (.cells cr 23)).alloc (.cells (bs (List.replicate 32 0)) 23)) := H1.out.keep ((Below.refl _ _).alloc (Nat.le_refl _) _)
  refine world_cut (fun W => Two32 w l r W ∧ Blk W (w.heap.size + 2) 23 (bs (List.replicate 32 0))) ⟨h2, Blk.newAt _ _ _ _ _ (by simp) rfl⟩ ?_
  clear h2 H1
  intro W1 hW1
  have hG : ∀ W W' : World, (Two32 w l r W ∧ Blk W (w.heap.size + 2) 23 (bs (List.replicate 32 0))) → Below W.heap.size W W' → (Two32 w l r W' ∧ Blk W' (w.heap.size + 2) 23 (bs (List.replicate 32 0))) := fun W W' h h' => ⟨h.1.keep h', h.2.keep h'⟩
  have hB : ∀ W, (Two32 w l r W ∧ Blk W (w.heap.size + 2) 23 (bs (List.replicate 32 0))) → w.heap.size + 3 ≤ W.heap.size := fun W h => h.2.lt
  refine region_late_by 8 _ _ rfl [(8, .is (.agg zc)), (9, .row (w.heap.size + 3) [1]), (10, stF [1]), (11, .is (.slice (some ⟨w.heap.size, 0, none⟩) 32 32)), (12, stF ([1] ++ l)), (13, .is (.slice (some ⟨w.heap.size + 1, 0, none⟩) 32 32)), (14, stF ([1] ++ l ++ r)), (7, varF (w.heap.size + 3) 55 zc)] [0, 6, 7, 14]
    (fun W => Two32 w l r W ∧ Blk W (w.heap.size + 2) 23 (bs (List.replicate 32 0))) (by kernel_rfl) (by kernel_rfl) (by kernel_rfl) (by kernel_rfl) (fun k fk hk => .inl (lookup_ops (by kernel_rfl) hk)) rfl rfl rfl (by kernel_rfl) (hG _ _ hW1 (Below.refl _ _).drew) ?_ ?_
  · refine ⟨?a0, ?a1, ?a2, ?a3, ?a4, ?a5, ?a6, ?a7, trivial⟩
    case a0 => exact Asked.late (ask_build0 (guard_none rfl) _ (.agg zc) rfl (by intro k hk; cases hk; rfl) HZb.out)
    case a1 => exact Asked.late (ask_build_row hG (guard_none rfl) _ 1 _ hB rfl rfl (by intro k hk; cases hk; rfl))
    case a2 => exact Asked.late (ask_call_by hG (guard_none rfl) _ _ _ (stF [1]) rfl (by kernel_rfl) (by intro k hk; cases hk; rfl) (fun x W hW hk => by
      have e8 : x 8 = .agg zc := hk 8 rfl
      have e9 : Row W (w.heap.size + 3) (x 9) [1] := hk 9 rfl
      show Calls _ _ #[x 8, x 9] W _
      rw [e8]
      obtain ⟨a9, n9, c9, e, hc9, hb9⟩ := e9.sliceOf (by decide)
      rw [e] at hb9 ⊢
      refine (HWr.out (.agg zc) [] [1] a9 n9 c9 W HI.out hb9 hc9 (by decide) hW.1.2.2).mono ?_
      rintro e w' ⟨v, h1, h2, h3⟩
      exact ⟨v, h1, h2, h3⟩))
    case a3 => exact Asked.late (ask_slice (guard_none rfl) 23 (.tmp 4) none none none (.pointer (some ⟨w.heap.size, 0, none⟩)) (.slice (some ⟨w.heap.size, 0, none⟩) 32 32) none none none rfl rfl rfl rfl rfl (by intro k hk; cases hk; rfl) (fun W => slice_h32 _ W))
    case a4 => exact Asked.late (ask_call_by hG (guard_none rfl) _ _ _ (stF ([1] ++ l)) rfl (by kernel_rfl) (by intro k hk; cases hk; rfl) (fun x W hW hk => by
      have e10 : IsState (x 10) [1] := hk 10 rfl
      have e11 : x 11 = .slice (some ⟨w.heap.size, 0, none⟩) 32 32 := hk 11 rfl
      show Calls _ _ #[x 10, x 11] W _
      rw [e11]
      refine (HWr.out (x 10) [1] l _ 32 32 W e10 (blk_bys hW.1.1 HL.out) (Nat.le_refl _) (by rw [HL.out]; decide) hW.1.2.2).mono ?_
      rintro e w' ⟨v, h1, h2, h3⟩
      exact ⟨v, h1, h2, h3⟩))
    case a5 => exact Asked.late (ask_slice (guard_none rfl) 23 (.tmp 5) none none none (.pointer (some ⟨w.heap.size + 1, 0, none⟩)) (.slice (some ⟨w.heap.size + 1, 0, none⟩) 32 32) none none none rfl rfl rfl rfl rfl (by intro k hk; cases hk; rfl) (fun W => slice_h32 _ W))
    case a6 => exact Asked.late (ask_call_by hG (guard_none rfl) _ _ _ (stF ([1] ++ l ++ r)) rfl (by kernel_rfl) (by intro k hk; cases hk; rfl) (fun x W hW hk => by
      have e12 : IsState (x 12) ([1] ++ l) := hk 12 rfl
      have e13 : x 13 = .slice (some ⟨w.heap.size + 1, 0, none⟩) 32 32 := hk 13 rfl
      show Calls _ _ #[x 12, x 13] W _
      rw [e13]
      refine (HWr.out (x 12) ([1] ++ l) r _ 32 32 W e12 (blk_bys hW.1.2.1 HR.out) (Nat.le_refl _) (by rw [List.length_append, HL.out, HR.out]; decide) hW.1.2.2).mono ?_
      rintro e w' ⟨v, h1, h2, h3⟩
      exact ⟨v, h1, h2, h3⟩))
    case a7 => exact Asked.late (ask_alloc hG (guard_none rfl) _ (.agg zc) (varF (w.heap.size + 3) 55 zc) rfl HZv.out (by intro k hk; cases hk; rfl) (fun W hW => ⟨_, rfl, hB W hW, Blk.new W _ _⟩))
  intro a' W3 hW hd' hs' hf'
  have t7 : ∃ g, a'.tmps.getD 7 undef = .pointer (some ⟨g, 0, none⟩) ∧ w.heap.size + 3 ≤ g ∧ Blk W3 g 55 zc := hf' 7 rfl
  have t14 : IsState (a'.tmps.getD 14 undef) ([1] ++ l ++ r) := hf' 14 rfl
  have t0 : a'.tmps.getD 0 undef = .int .i64 n := hf' 0 rfl
  have t6 : a'.tmps.getD 6 undef = .pointer (some ⟨w.heap.size + 2, 0, none⟩) := hf' 6 rfl
  obtain ⟨us', hus, ha'⟩ := act_open 19 a' hs' hd'
  rw [← hus] at t7 t14 t0 t6
  obtain ⟨g7, e7, hg7, hb7⟩ := t7
  obtain ⟨st, e14, hst, hso⟩ := t14.cells
  rw [e14] at t14
  have el : ((List.range 19).map us').toArray = #[.int .i64 n, us' 1, us' 2, us' 3, us' 4, us' 5, .pointer (some ⟨w.heap.size + 2, 0, none⟩), .pointer (some ⟨g7, 0, none⟩), us' 8, us' 9, us' 10, us' 11, us' 12, us' 13, .agg st, us' 15, us' 16, us' 17, us' 18] := by
    show #[us' 0, us' 1, us' 2, us' 3, us' 4, us' 5, us' 6, us' 7, us' 8, us' 9, us' 10, us' 11, us' 12, us' 13, us' 14, us' 15, us' 16, us' 17, us' 18] = _
    rw [t0, t6, e7, e14]
  rw [el] at ha'
  subst ha'
  clear hus t0 t6 e7 e14 el hf' hs' hd' hG hB hW1
  have HW3 := Lib.hid hW
  have HG7 := Lib.hid hg7
  have HB7 := Lib.hid hb7
  have HV := Lib.hid t14
  have HSs := Lib.hid (size_state hst)
  have HSt := Lib.hid hst
  have HSo := Lib.hid hso
  clear hW hg7 hb7 t14 hst hso HZv HZb HI
  go_upto_region 2 with (refine wpList_store_row rfl 55 (.tmp 7) (.tmp 14) rfl g7 st rfl rfl 55 _ HB7.out HSs.out (by rw [HZ73.out, HSt.out]) HSo.out ?_)
  refine world_cut (fun W => Blk W g7 55 st ∧ Blk W (w.heap.size + 2) 23 (bs (List.replicate 32 0)) ∧ Below w.heap.size w W) ⟨Blk.row HB7.out _, HW3.out.2.rowOther _ (by have := HG7.out; omega), below_setRow HW3.out.1.2.2 _ _ (by have := HG7.out; omega)⟩ ?_
  rintro W ⟨k1, k2, k3⟩
  have K1 := Lib.hid k1
  have K2 := Lib.hid k2
  have K3 := Lib.hid k3
  clear k1 k2 k3 HW3 HB7
  go_wp2_with (refine wpList_load_row rfl 55 (.tmp 7) rfl g7 rfl _ _ _ _ K1.out Tryd.underlying55 rfl HSs.out ?_)
  refine (HSm.out _ _ HV.out K3.out).mono ?_
  rintro e w3 ⟨rfl, hb⟩
  have HB3 := Lib.hid (K3.out.trans (hb.mono K3.out.size))
  have HZ3 := Lib.hid (K2.out.keep hb)
  clear hb K1 K2 K3
  go_wp2_with fail
  refine (HNar.out _).mono ?_
  rintro e w4 ⟨rfl, hb⟩
  have HB4 := Lib.hid (HB3.out.trans (hb.mono HB3.out.size))
  have HZ4 := Lib.hid (HZ3.out.keep hb)
  clear hb HB3 HZ3
  go_wp2_with (refine wpList_store_row rfl 23 (.tmp 6) (.tmp 18) rfl (w.heap.size + 2) cs rfl rfl 23 _ HZ4.out HSz.out (by rw [HCl.out]; rfl) HOne.out ?_)
  exact bodyPost_ret (v := .agg cs) (results_cell_row rfl _ _ (w.heap.size + 2) 23 cs (0, 0) _ rfl (Blk.row HZ4.out cs) Tryd.underlying23 rfl HSz.out) rfl ⟨rfl, below_setRow HB4.out _ _ (by omega)⟩
end Go.Proofs.YtnglgeaoakimpaaDoor

/- The program's roots. -/
namespace Go.Proofs.YtnglgeaoakimpaaDoor
set_option maxRecDepth 20000
open Go.RowKit ShaMath LeafMath Reg

set_option maxHeartbeats 1000000 in
set_option maxRecDepth 100000 in
theorem root_any (n : Int) (hn : I64 n) : ∀ (N : Nat) (hs : List Hs) (v : Value) (w : World), hs.length = N → Hss w v hs → N ≤ 1000000000 → Tabs w →
    Calls Tryd.prog 18 #[.int .i64 n, v] w fun e w' => e = .returned (.agg (bs (rootH n hs))) ∧ Below w.heap.size w w' := by
  intro N
  induction N using Nat.strongRecOn with
  | ind N ih =>
    intro hs v w hN hv hle hk
    obtain ⟨a, c, rfl, hlc⟩ := hv.form
    rw [hN] at hv hlc ⊢
    obtain ⟨cs, hcs, hcl, hone⟩ := hash_cells (rootH n hs) (rootH_length _ _ hv.all)
    have HSz := Lib.hid (size_hash hcl)
    have HOne := Lib.hid hone
    have HCl := Lib.hid hcl
    have HK := Lib.hid hk
    have HV := Lib.hid hv
    have HN := Lib.hid hN
    have HI := Lib.hid hn
    have hb0 : ∀ o, Below w.heap.size w (w.alloc o) := fun o => (Below.refl _ _).alloc (Nat.le_refl _) o
    have HB0 := Lib.hid hb0
    clear hcl hone hb0
    by_cases h0 : N = 0
    · subst h0
      have he : rootH n hs = emptyH n := by rw [List.eq_nil_of_length_eq_zero hN, rootH_nil]
      rw [← hcs]
      rw [he] at hcs
      have HE := Lib.hid (fun o => empty_any n (w.alloc o) hn (hk.below (Nat.le_refl _) (HB0.out o)))
      rw [← hcs] at HE
      clear hk hv hN hcs he ih hn
      go_enter Tryd.func18, Tryd.ntmps18
      go_wp2_with fail
      refine (HE.out _).mono ?_
      rintro e w2 ⟨rfl, hb2⟩
      have HB2 := Lib.hid hb2
      clear hb2 HE
      go_wp2_with (refine wpList_store_row rfl 23 (.tmp 4) (.tmp 11) rfl w.heap.size cs rfl rfl 23 _ ((Blk.new w _ _).keep HB2.out) HSz.out (by rw [HCl.out]; rfl) HOne.out ?_)
      exact bodyPost_ret (v := .agg cs) (results_cell_row rfl _ _ w.heap.size 23 cs (0, 0) _ rfl (Blk.row ((Blk.new w _ _).keep HB2.out) cs) Tryd.underlying23 rfl HSz.out) rfl ⟨rfl, below_setRow ((HB0.out _).trans (HB2.out.mono (by simp))) _ _ (Nat.le_refl _)⟩
    · by_cases h1 : N = 1
      · subst h1
        obtain ⟨x, rfl⟩ : ∃ x, hs = [x] := by
          match hs, hN with
          | [x], _ => exact ⟨x, rfl⟩
        obtain ⟨ad, rfl, hc⟩ := (hv.below (Nat.le_refl _) (HB0.out (.cells (bs (List.replicate 32 0)) 23))).load (i := 0) (x := x) rfl
        rw [rootH_one] at hcs ⊢
        have HLoad := Lib.hid (load_hash _ (ad.add (0 * 32)) x (hv.all x (by simp)) hc)
        rw [← hcs] at HLoad ⊢
        rw [show ad.add (0 * 32) = ad by simp [Addr.add]] at HLoad
        clear hk hv hN hcs ih hn hc
        go_enter Tryd.func18, Tryd.ntmps18
        go_wp2_with (first
          | (refine wpList_load_by rfl 23 (.tmp 15) rfl _ _ rfl HLoad.out ?_)
          | (refine wpList_store_row rfl 23 (.tmp 4) (.tmp 16) rfl w.heap.size cs rfl rfl 23 _ (Blk.new w _ _) HSz.out (by rw [HCl.out]; rfl) HOne.out ?_))
        exact bodyPost_ret (v := .agg cs) (results_cell_row rfl _ _ w.heap.size 23 cs (0, 0) _ rfl (Blk.row (Blk.new w _ _) cs) Tryd.underlying23 rfl HSz.out) rfl ⟨rfl, below_setRow (HB0.out _) _ _ (Nat.le_refl _)⟩
      · have h2 : 2 ≤ hs.length := by omega
        have hk1 := splitN_lt h2
        have hk0 := splitN_pos hs.length
        obtain ⟨k, hkk⟩ : ∃ k, k = splitN hs.length := ⟨_, rfl⟩
        obtain ⟨L, hL⟩ : ∃ L, L = rootH n (hs.take k) := ⟨_, rfl⟩
        obtain ⟨R, hR⟩ : ∃ R, R = rootH n (hs.drop k) := ⟨_, rfl⟩
        have hroot : rootH n hs = nodeH n L R := by rw [hL, hR, hkk]; exact rootH_more n hs h2
        have hL32 : L.length = 32 := by rw [hL]; exact rootH_length _ _ (hv.all.take k)
        have hR32 : R.length = 32 := by rw [hR]; exact rootH_length _ _ (hv.all.drop k)
        rw [← hcs]
        rw [hroot] at hcs
        rw [← hkk] at hk0 hk1
        have hkN : k < N := by omega
        have HSplit := Lib.hid (fun W => splitAt_any N W (by omega) (by omega))
        rw [← hN, ← hkk, hN] at HSplit
        obtain ⟨va, hva⟩ : ∃ va, va = sliced a 0 k c 32 := ⟨_, rfl⟩
        obtain ⟨vb, hvb⟩ : ∃ vb, vb = sliced a k N c 32 := ⟨_, rfl⟩
        have h1s : Hss w va (hs.take k) := by
          have := hv.sub 0 k (by omega) (by omega)
          rw [hva]
          simpa using this
        have h2s : Hss w vb (hs.drop k) := by
          have := hv.sub k N (by omega) (by omega)
          rw [hvb]
          rwa [List.take_of_length_le (by omega)] at this
        have hsa : ∀ W, (Instr.sliceAt 25 (.slice a N c) none (some (.int .u64 (k : Int))) none).run Tryd.prog W = .ok va W := fun W => by rw [hva]; exact slice_hs_toU a N c k (by omega) W
        have hsb : ∀ W, (Instr.sliceAt 25 (.slice a N c) (some (.int .u64 (k : Int))) none none).run Tryd.prog W = .ok vb W := fun W => by rw [hvb]; exact slice_hs_fromU a N c k (by omega) W
        obtain ⟨cl, hcl, hcl1, _⟩ := hash_cells L hL32
        obtain ⟨cr, hcr, hcr1, _⟩ := hash_cells R hR32
        have HA := Lib.hid (fun (W : World) (hW : Below w.heap.size w W) => ih k hkN (hs.take k) va W (by rw [List.length_take]; omega) (h1s.below (Nat.le_refl _) hW) (by omega) (hk.below (Nat.le_refl _) hW))
        have HBb := Lib.hid (fun (W : World) (hW : Below w.heap.size w W) => ih (N - k) (by omega) (hs.drop k) vb W (by rw [List.length_drop]; omega) (h2s.below (Nat.le_refl _) hW) (by omega) (hk.below (Nat.le_refl _) hW))
        have HNode := Lib.hid (fun (W : World) (hW : Below w.heap.size w W) => node_any n L R W hn hL32 hR32 (hk.below (Nat.le_refl _) hW))
        rw [← hL, ← hcl] at HA
        rw [← hR, ← hcr] at HBb
        rw [← hcl, ← hcr, ← hcs] at HNode
        have HSa := Lib.hid hsa
        have HSb := Lib.hid hsb
        have HR0 := Lib.hid (Res32.new w (bs (List.replicate 32 0)) (by rw [bs_size]; rfl))
        clear hk hv hN hcs ih hn hcl hcr hcl1 hcr1 hsa hsb hva hvb h1s h2s hL hR hroot hL32 hR32 hkk hk1 h2
        have e0 : ¬ (N : Int) = 0 := by omega
        have e1 : ¬ (N : Int) = 1 := by omega
        go_enter Tryd.func18, Tryd.ntmps18
        go_wp2_with fail
        refine (HSplit.out _).mono ?_
        rintro e w2 ⟨rfl, rfl⟩
        go_upto_region 7 with fail
        refine world_cut (fun W => Res32 w W) HR0.out ?_
        clear HR0 HSplit
        intro W1 hW1
        have hG : ∀ W W' : World, Res32 w W → Below W.heap.size W W' → Res32 w W' := fun W W' h h' => h.keep h'
        refine region_tail_by 12 _ [(21, .is (.int .i64 n)), (22, .is (.int .i64 n)), (23, .is (.slice a N c)), (24, .is (.int .u64 (k : Int))), (25, .is va), (26, .is (.agg cl)), (27, .is (.int .i64 n)), (28, .is (.slice a N c)), (29, .is (.int .u64 (k : Int))), (30, .is vb), (31, .is (.agg cr)), (32, .is (.agg cs))] [4, 32]
          (fun W => Res32 w W) (by kernel_rfl) (by kernel_rfl) (by kernel_rfl) (by kernel_rfl) (by kernel_rfl) rfl rfl rfl rfl (by kernel_rfl) hW1.drew ?_ ?_
        · refine ⟨?a0, ?a1, ?a2, ?a3, ?a4, ?a5, ?a6, ?a7, ?a8, ?a9, ?a10, ?a11, trivial⟩
          case a0 => exact ask_copy (guard_none rfl) (.tmp 0) (.inl rfl) (by intro k hk; cases hk; rfl)
          case a1 => exact ask_copy (guard_none rfl) (.tmp 0) (.inl rfl) (by intro k hk; cases hk; rfl)
          case a2 => exact ask_copy (guard_none rfl) (.tmp 1) (.inl rfl) (by intro k hk; cases hk; rfl)
          case a3 => exact ask_copy (guard_none rfl) (.tmp 5) (.inl rfl) (by intro k hk; cases hk; rfl)
          case a4 => exact ask_slice (guard_none rfl) 25 (.tmp 23) none (some (.tmp 24)) none (.slice a N c) va none (some (.int .u64 (k : Int))) none rfl rfl rfl rfl rfl (by intro k hk; cases hk; rfl) HSa.out
          case a5 => exact ask_call hG (guard_none rfl) _ _ _ #[.int .i64 n, va] (.is (.agg cl)) rfl (by kernel_rfl) rfl rfl (by intro k hk; cases hk; rfl) (fun W hW => (HA.out W hW.2).mono fun e w' h => ⟨_, h.1, rfl, h.2⟩)
          case a6 => exact ask_copy (guard_none rfl) (.tmp 0) (.inl rfl) (by intro k hk; cases hk; rfl)
          case a7 => exact ask_copy (guard_none rfl) (.tmp 1) (.inl rfl) (by intro k hk; cases hk; rfl)
          case a8 => exact ask_copy (guard_none rfl) (.tmp 5) (.inl rfl) (by intro k hk; cases hk; rfl)
          case a9 => exact ask_slice (guard_none rfl) 25 (.tmp 28) (some (.tmp 29)) none none (.slice a N c) vb (some (.int .u64 (k : Int))) none none rfl rfl rfl rfl rfl (by intro k hk; cases hk; rfl) HSb.out
          case a10 => exact ask_call hG (guard_none rfl) _ _ _ #[.int .i64 n, vb] (.is (.agg cr)) rfl (by kernel_rfl) rfl rfl (by intro k hk; cases hk; rfl) (fun W hW => (HBb.out W hW.2).mono fun e w' h => ⟨_, h.1, rfl, h.2⟩)
          case a11 => exact ask_call hG (guard_none rfl) _ _ _ #[.int .i64 n, .agg cl, .agg cr] (.is (.agg cs)) rfl (by kernel_rfl) rfl rfl (by intro k hk; cases hk; rfl) (fun W hW => (HNode.out W hW.2).mono fun e w' h => ⟨_, h.1, rfl, h.2⟩)
        · intro a' W hW hd' hs' hf'
          have t4 : a'.tmps.getD 4 undef = .pointer (some ⟨w.heap.size, 0, none⟩) := hf' 4 rfl
          have t32 : a'.tmps.getD 32 undef = .agg cs := hf' 32 rfl
          obtain ⟨us', hus, ha'⟩ := act_open 33 a' hs' hd'
          rw [← hus] at t4 t32
          have el : ((List.range 33).map us').toArray = #[us' 0, us' 1, us' 2, us' 3, us' 4, us' 5, us' 6, us' 7, us' 8, us' 9, us' 10, us' 11, us' 12, us' 13, us' 14, us' 15, us' 16, us' 17, us' 18, us' 19, us' 20, us' 21, us' 22, us' 23, us' 24, us' 25, us' 26, us' 27, us' 28, us' 29, us' 30, us' 31, us' 32] := rfl
          rw [el] at ha'
          subst ha'
          rw [t4, t32]
          clear hus t4 t32 el hf' hs' hd' hG hW1
          obtain ⟨⟨zs, hz1, hz2⟩, hB5⟩ := hW
          have HZ := Lib.hid hz1
          have HZs := Lib.hid hz2
          have HB5 := Lib.hid hB5
          clear hz1 hz2 hB5
          go_wp2_with (refine wpList_store_row rfl 23 (.tmp 4) (.tmp 32) rfl w.heap.size cs rfl rfl 23 _ HZ.out HSz.out (by rw [HCl.out, HZs.out]) HOne.out ?_)
          exact bodyPost_ret (v := .agg cs) (results_cell_row rfl _ _ w.heap.size 23 cs (0, 0) _ rfl (Blk.row HZ.out cs) Tryd.underlying23 rfl HSz.out) rfl ⟨rfl, below_setRow HB5.out _ _ (Nat.le_refl _)⟩
end Go.Proofs.YtnglgeaoakimpaaDoor

/- The program's functions of layer 14 answer what they are to answer. -/
namespace Go.Proofs.YtnglgeaoakimpaaDoor
set_option maxRecDepth 20000
open Go.RowKit ShaMath LeafMath Reg

theorem leafProg : LeafProg where
  empty n w hn ht := empty_any n w hn ht
  node n l r w hn hl hr ht := node_any n l r w hn hl hr ht
  root n hs v w hn hv hl ht := root_any n hn hs.length hs v w rfl hv (by omega) ht
end Go.Proofs.YtnglgeaoakimpaaDoor

