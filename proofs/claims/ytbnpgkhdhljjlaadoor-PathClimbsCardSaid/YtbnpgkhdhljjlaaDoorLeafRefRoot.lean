/- The reference's Split and Root. -/
import Derived.Test.YtbnpgkhdhljjlaaDoorLeafKit
import Derived.IntWalk
namespace Go.Proofs.YtbnpgkhdhljjlaaDoor
set_option maxRecDepth 20000
open Go.RowKit ShaMath LeafMath Reg

/-- The greatest power of 2 below n, on the way: k. -/
def SplitAt (n : Nat) (w : World) (s : Value) (wr : World) : Prop := ∃ k j : Nat, k = 2 ^ j ∧ k ≤ splitN n ∧ s = .int .i64 (k : Int) ∧ wr = w
theorem split_more {n k j : Nat} (hk : k = 2 ^ j) (h1 : 1 ≤ k) (h : k * 2 < n) : k * 2 = 2 ^ (j + 1) ∧ k * 2 ≤ splitN n := by
  refine ⟨by rw [Nat.pow_succ, hk], ?_⟩
  obtain ⟨i, hi⟩ := splitN_pow n
  have := splitN_ge (n := n) (by omega)
  by_cases hij : j + 1 ≤ i
  · have h2 := Nat.pow_le_pow_right (n := 2) (by decide) hij
    rw [Nat.pow_succ, ← hk] at h2
    rw [hi]
    exact h2
  · have h2 := Nat.pow_le_pow_right (n := 2) (by decide) (show i ≤ j by omega)
    rw [← hk, ← hi] at h2
    omega
theorem split_done {n k j : Nat} (hk : k = 2 ^ j) (h1 : k ≤ splitN n) (hn : 1 ≤ n) (h : n ≤ k * 2) : k = splitN n := by
  have hp : 0 < 2 ^ j := Nat.pow_pos (by decide)
  by_cases h2 : 2 ≤ n
  · have := splitN_lt h2
    rw [hk, splitN_is (n := n) (j := j) (by omega) (by omega)]
  · obtain rfl : n = 1 := by omega
    have : splitN 1 = 1 := by decide +kernel
    omega

theorem refsplit_any (n : Nat) (w : World) (h1 : 1 ≤ n) (hn : n ≤ 1152921504606846976) :
    Calls Tryd.prog 33 #[.int .i64 (n : Int)] w fun e w' => e = .returned (.int .i64 (splitN n : Int)) ∧ w' = w := by
  have hstart : SplitAt n w (.int .i64 1) w := ⟨1, 0, rfl, splitN_pos n, rfl, rfl⟩
  have HS := Lib.hid hstart
  clear hstart
  go_enter Tryd.func33, Tryd.ntmps33
  go_wp2
  go_loopw [3] (fun s3 wr => SplitAt n w s3 wr) (fun s3 _ => 2 * n - (intOf s3).toNat)
  case atStart => exact HS.out
  case round =>
    obtain ⟨k, j, hk, hle, rfl, rfl⟩ := hrel
    have hk1 : 1 ≤ k := by rw [hk]; exact Nat.pow_pos (by decide)
    have HK := Lib.hid hk
    have HLe := Lib.hid hle
    have hkn : k ≤ n := by
      by_cases h2 : 2 ≤ n
      · have := splitN_lt h2
        omega
      · obtain rfl : n = 1 := by omega
        have : splitN 1 = 1 := by decide +kernel
        omega
    clear hk hle HS
    by_cases hlt : k * 2 < n
    · obtain ⟨d, hd⟩ : ∃ d : Nat, (n : Int) - (k : Int) = (d : Int) := ⟨n - k, by omega⟩
      have hkd : (k : Int) < (d : Int) := by omega
      obtain ⟨m, hm⟩ : ∃ m : Nat, (k : Int) * 2 = (m : Int) := ⟨k * 2, by omega⟩
      have hm2 : m = k * 2 := by omega
      have hmn : m ≤ n := by omega
      have HM2 := Lib.hid hm2
      have HLt := Lib.hid hlt
      clear hm2 hlt
      go_wp2
      go_roundw
      case rel =>
        obtain ⟨a, b⟩ := split_more HK.out hk1 HLt.out
        exact ⟨m, j + 1, by rw [HM2.out]; exact a, by rw [HM2.out]; exact b, rfl, rfl⟩
      case measure =>
        have := HM2.out
        simp only [intOf, Int.toNat_natCast]
        omega
    · obtain ⟨d, hd⟩ : ∃ d : Nat, (n : Int) - (k : Int) = (d : Int) := ⟨n - k, by omega⟩
      have hkd : ¬ (k : Int) < (d : Int) := by omega
      have HLt := Lib.hid hlt
      clear hlt
      go_wp2
      go_ret
      exact ⟨by rw [← split_done HK.out HLe.out h1 (by have := HLt.out; omega)]; rfl, rfl⟩

/-- A result's block, and all that was there. -/
def Res32 (w W : World) : Prop := (∃ zs, Blk W w.heap.size 25 zs ∧ zs.size = 32) ∧ Below w.heap.size w W
theorem Res32.new (w : World) (cs : Array Value) (h : cs.size = 32) : Res32 w (w.alloc (.cells cs 25)) := ⟨⟨_, Blk.new w _ _, h⟩, (Below.refl _ _).alloc (Nat.le_refl _) _⟩
theorem Res32.keep {w W W' : World} (h : Res32 w W) (hb : Below W.heap.size W W') : Res32 w W' := by
  obtain ⟨⟨zs, h1, h2⟩, h3⟩ := h
  exact ⟨⟨zs, h1.keep hb, h2⟩, h3.trans (hb.mono h3.size)⟩
theorem Res32.drew {w W : World} (h : Res32 w W) : Res32 w W.drew := h.keep (Below.refl _ _).drew

set_option maxHeartbeats 1000000 in
set_option maxRecDepth 100000 in
theorem refroot_any (n : Int) (hn : I64 n) : ∀ (N : Nat) (hs : List Hs) (v : Value) (w : World), hs.length = N → Hss w v hs → N ≤ 1000000000 → Consts w →
    Calls Tryd.prog 14 #[.int .i64 n, v] w fun e w' => e = .returned (.agg (bs (rootH n hs))) ∧ Below w.heap.size w w' := by
  intro N
  induction N using Nat.strongRecOn with
  | ind N ih =>
    intro hs v w hN hv hle hk
    obtain ⟨a, c, rfl, hlc⟩ := hv.form
    rw [hN] at hv hlc ⊢
    obtain ⟨cs, hcs, hcl, hone⟩ := hash_cells (rootH n hs) (rootH_length _ _ hv.all)
    have HSz := Lib.hid (size_hash hcl)
    have HOne := Lib.hid hone
    have HCl := Lib.hid hcl
    have HK := Lib.hid hk
    have HV := Lib.hid hv
    have HN := Lib.hid hN
    have HI := Lib.hid hn
    have hb0 : ∀ o, Below w.heap.size w (w.alloc o) := fun o => (Below.refl _ _).alloc (Nat.le_refl _) o
    have HB0 := Lib.hid hb0
    clear hcl hone hb0
    by_cases h0 : N = 0
    · subst h0
      have he : rootH n hs = emptyH n := by rw [List.eq_nil_of_length_eq_zero hN, rootH_nil]
      rw [← hcs]
      rw [he] at hcs
      have HE := Lib.hid (fun o => refempty_any n (w.alloc o) hn (hk.below (Nat.le_refl _) (HB0.out o)))
      rw [← hcs] at HE
      clear hk hv hN hcs he ih hn
      go_enter Tryd.func14, Tryd.ntmps14
      go_wp2_with fail
      refine (HE.out _).mono ?_
      rintro e w2 ⟨rfl, hb2⟩
      have HB2 := Lib.hid hb2
      clear hb2 HE
      go_wp2_with (refine wpList_store_row rfl 25 (.tmp 4) (.tmp 12) rfl w.heap.size cs rfl rfl 25 _ ((Blk.new w _ _).keep HB2.out) HSz.out (by rw [HCl.out]; rfl) HOne.out ?_)
      exact bodyPost_ret (v := .agg cs) (results_cell_row rfl _ _ w.heap.size 25 cs (0, 0) _ rfl (Blk.row ((Blk.new w _ _).keep HB2.out) cs) Tryd.underlying25 rfl HSz.out) rfl ⟨rfl, below_setRow ((HB0.out _).trans (HB2.out.mono (by simp))) _ _ (Nat.le_refl _)⟩
    · by_cases h1 : N = 1
      · subst h1
        obtain ⟨x, rfl⟩ : ∃ x, hs = [x] := by
          match hs, hN with
          | [x], _ => exact ⟨x, rfl⟩
        obtain ⟨ad, rfl, hc⟩ := (hv.below (Nat.le_refl _) (HB0.out (.cells (bs (List.replicate 32 0)) 25))).load (i := 0) (x := x) rfl
        rw [rootH_one] at hcs ⊢
        have HLoad := Lib.hid (load_hash _ (ad.add (0 * 32)) x (hv.all x (by simp)) hc)
        rw [← hcs] at HLoad ⊢
        rw [show ad.add (0 * 32) = ad by simp [Addr.add]] at HLoad
        clear hk hv hN hcs ih hn hc
        go_enter Tryd.func14, Tryd.ntmps14
        go_wp2_with (first
          | (refine wpList_load_by rfl 25 (.tmp 16) rfl _ _ rfl HLoad.out ?_)
          | (refine wpList_store_row rfl 25 (.tmp 4) (.tmp 17) rfl w.heap.size cs rfl rfl 25 _ (Blk.new w _ _) HSz.out (by rw [HCl.out]; rfl) HOne.out ?_))
        exact bodyPost_ret (v := .agg cs) (results_cell_row rfl _ _ w.heap.size 25 cs (0, 0) _ rfl (Blk.row (Blk.new w _ _) cs) Tryd.underlying25 rfl HSz.out) rfl ⟨rfl, below_setRow (HB0.out _) _ _ (Nat.le_refl _)⟩
      · have h2 : 2 ≤ hs.length := by omega
        have hk1 := splitN_lt h2
        have hk0 := splitN_pos hs.length
        obtain ⟨k, hkk⟩ : ∃ k, k = splitN hs.length := ⟨_, rfl⟩
        obtain ⟨L, hL⟩ : ∃ L, L = rootH n (hs.take k) := ⟨_, rfl⟩
        obtain ⟨R, hR⟩ : ∃ R, R = rootH n (hs.drop k) := ⟨_, rfl⟩
        have hroot : rootH n hs = nodeH n L R := by rw [hL, hR, hkk]; exact rootH_more n hs h2
        have hL32 : L.length = 32 := by rw [hL]; exact rootH_length _ _ (hv.all.take k)
        have hR32 : R.length = 32 := by rw [hR]; exact rootH_length _ _ (hv.all.drop k)
        rw [← hcs]
        rw [hroot] at hcs
        rw [← hkk] at hk0 hk1
        have hkN : k < N := by omega
        have HSplit := Lib.hid (fun W => refsplit_any N W (by omega) (by omega))
        rw [← hN, ← hkk, hN] at HSplit
        obtain ⟨va, hva⟩ : ∃ va, va = sliced a 0 k c 32 := ⟨_, rfl⟩
        obtain ⟨vb, hvb⟩ : ∃ vb, vb = sliced a k N c 32 := ⟨_, rfl⟩
        have h1s : Hss w va (hs.take k) := by
          have := hv.sub 0 k (by omega) (by omega)
          rw [hva]
          simpa using this
        have h2s : Hss w vb (hs.drop k) := by
          have := hv.sub k N (by omega) (by omega)
          rw [hvb]
          rwa [List.take_of_length_le (by omega)] at this
        have hsa : ∀ W, (Instr.sliceAt 22 (.slice a N c) none (some (.int .i64 (k : Int))) none).run Tryd.prog W = .ok va W := fun W => by rw [hva]; exact slice_hs_to a N c k (by omega) W
        have hsb : ∀ W, (Instr.sliceAt 22 (.slice a N c) (some (.int .i64 (k : Int))) none none).run Tryd.prog W = .ok vb W := fun W => by rw [hvb]; exact slice_hs_from a N c k (by omega) W
        obtain ⟨cl, hcl, hcl1, _⟩ := hash_cells L hL32
        obtain ⟨cr, hcr, hcr1, _⟩ := hash_cells R hR32
        have HA := Lib.hid (fun (W : World) (hW : Below w.heap.size w W) => ih k hkN (hs.take k) va W (by rw [List.length_take]; omega) (h1s.below (Nat.le_refl _) hW) (by omega) (hk.below (Nat.le_refl _) hW))
        have HBb := Lib.hid (fun (W : World) (hW : Below w.heap.size w W) => ih (N - k) (by omega) (hs.drop k) vb W (by rw [List.length_drop]; omega) (h2s.below (Nat.le_refl _) hW) (by omega) (hk.below (Nat.le_refl _) hW))
        have HNode := Lib.hid (fun (W : World) (hW : Below w.heap.size w W) => refnode_any n L R W hL32 hR32 hn (hk.below (Nat.le_refl _) hW))
        rw [← hL, ← hcl] at HA
        rw [← hR, ← hcr] at HBb
        rw [← hcl, ← hcr, ← hcs] at HNode
        have HSa := Lib.hid hsa
        have HSb := Lib.hid hsb
        have HR0 := Lib.hid (Res32.new w (bs (List.replicate 32 0)) (by rw [bs_size]; rfl))
        clear hk hv hN hcs ih hn hcl hcr hcl1 hcr1 hsa hsb hva hvb h1s h2s hL hR hroot hL32 hR32 hkk hk1 h2
        have e0 : ¬ (N : Int) = 0 := by omega
        have e1 : ¬ (N : Int) = 1 := by omega
        go_enter Tryd.func14, Tryd.ntmps14
        go_wp2_with fail
        refine (HSplit.out _).mono ?_
        rintro e w2 ⟨rfl, rfl⟩
        go_upto_region 7 with fail
        refine world_cut (fun W => Res32 w W) HR0.out ?_
        clear HR0 HSplit
        intro W1 hW1
        have hG : ∀ W W' : World, Res32 w W → Below W.heap.size W W' → Res32 w W' := fun W W' h h' => h.keep h'
        refine region_tail_by 12 _ [(20, .is (.int .i64 n)), (21, .is (.int .i64 n)), (22, .is (.slice a N c)), (23, .is (.int .i64 (k : Int))), (24, .is va), (25, .is (.agg cl)), (26, .is (.int .i64 n)), (27, .is (.slice a N c)), (28, .is (.int .i64 (k : Int))), (29, .is vb), (30, .is (.agg cr)), (31, .is (.agg cs))] [4, 31]
          (fun W => Res32 w W) (by kernel_rfl) (by kernel_rfl) (by kernel_rfl) (by kernel_rfl) (by kernel_rfl) rfl rfl rfl rfl (by kernel_rfl) hW1.drew ?_ ?_
        · refine ⟨?a0, ?a1, ?a2, ?a3, ?a4, ?a5, ?a6, ?a7, ?a8, ?a9, ?a10, ?a11, trivial⟩
          case a0 => exact ask_copy (guard_none rfl) (.tmp 0) (.inl rfl) (by intro k hk; cases hk; rfl)
          case a1 => exact ask_copy (guard_none rfl) (.tmp 0) (.inl rfl) (by intro k hk; cases hk; rfl)
          case a2 => exact ask_copy (guard_none rfl) (.tmp 1) (.inl rfl) (by intro k hk; cases hk; rfl)
          case a3 => exact ask_copy (guard_none rfl) (.tmp 6) (.inl rfl) (by intro k hk; cases hk; rfl)
          case a4 => exact ask_slice (guard_none rfl) 22 (.tmp 22) none (some (.tmp 23)) none (.slice a N c) va none (some (.int .i64 (k : Int))) none rfl rfl rfl rfl rfl (by intro k hk; cases hk; rfl) HSa.out
          case a5 => exact ask_call hG (guard_none rfl) _ _ _ #[.int .i64 n, va] (.is (.agg cl)) rfl (by kernel_rfl) rfl rfl (by intro k hk; cases hk; rfl) (fun W hW => (HA.out W hW.2).mono fun e w' h => ⟨_, h.1, rfl, h.2⟩)
          case a6 => exact ask_copy (guard_none rfl) (.tmp 0) (.inl rfl) (by intro k hk; cases hk; rfl)
          case a7 => exact ask_copy (guard_none rfl) (.tmp 1) (.inl rfl) (by intro k hk; cases hk; rfl)
          case a8 => exact ask_copy (guard_none rfl) (.tmp 6) (.inl rfl) (by intro k hk; cases hk; rfl)
          case a9 => exact ask_slice (guard_none rfl) 22 (.tmp 27) (some (.tmp 28)) none none (.slice a N c) vb (some (.int .i64 (k : Int))) none none rfl rfl rfl rfl rfl (by intro k hk; cases hk; rfl) HSb.out
          case a10 => exact ask_call hG (guard_none rfl) _ _ _ #[.int .i64 n, vb] (.is (.agg cr)) rfl (by kernel_rfl) rfl rfl (by intro k hk; cases hk; rfl) (fun W hW => (HBb.out W hW.2).mono fun e w' h => ⟨_, h.1, rfl, h.2⟩)
          case a11 => exact ask_call hG (guard_none rfl) _ _ _ #[.int .i64 n, .agg cl, .agg cr] (.is (.agg cs)) rfl (by kernel_rfl) rfl rfl (by intro k hk; cases hk; rfl) (fun W hW => (HNode.out W hW.2).mono fun e w' h => ⟨_, h.1, rfl, h.2⟩)
        · intro a' W hW hd' hs' hf'
          have t4 : a'.tmps.getD 4 undef = .pointer (some ⟨w.heap.size, 0, none⟩) := hf' 4 rfl
          have t31 : a'.tmps.getD 31 undef = .agg cs := hf' 31 rfl
          obtain ⟨us', hus, ha'⟩ := act_open 32 a' hs' hd'
          rw [← hus] at t4 t31
          have el : ((List.range 32).map us').toArray = #[us' 0, us' 1, us' 2, us' 3, us' 4, us' 5, us' 6, us' 7, us' 8, us' 9, us' 10, us' 11, us' 12, us' 13, us' 14, us' 15, us' 16, us' 17, us' 18, us' 19, us' 20, us' 21, us' 22, us' 23, us' 24, us' 25, us' 26, us' 27, us' 28, us' 29, us' 30, us' 31] := rfl
          rw [el] at ha'
          subst ha'
          rw [t4, t31]
          clear hus t4 t31 el hf' hs' hd' hG hW1
          obtain ⟨⟨zs, hz1, hz2⟩, hB5⟩ := hW
          have HZ := Lib.hid hz1
          have HZs := Lib.hid hz2
          have HB5 := Lib.hid hB5
          clear hz1 hz2 hB5
          go_wp2_with (refine wpList_store_row rfl 25 (.tmp 4) (.tmp 31) rfl w.heap.size cs rfl rfl 25 _ HZ.out HSz.out (by rw [HCl.out, HZs.out]) HOne.out ?_)
          exact bodyPost_ret (v := .agg cs) (results_cell_row rfl _ _ w.heap.size 25 cs (0, 0) _ rfl (Blk.row HZ.out cs) Tryd.underlying25 rfl HSz.out) rfl ⟨rfl, below_setRow HB5.out _ _ (Nat.le_refl _)⟩
end Go.Proofs.YtbnpgkhdhljjlaaDoor
