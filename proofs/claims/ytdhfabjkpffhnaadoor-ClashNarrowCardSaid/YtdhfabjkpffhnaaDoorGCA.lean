/- Joined: PathRefSize, PathRefUp, PathRefClimb, PathRefProve. -/
import Derived.Test.YtdhfabjkpffhnaaDoorPathMath
import Derived.Test.YtdhfabjkpffhnaaDoorGCM
/- Layer 15's reference: Split, Size. -/
namespace Go.Proofs.YtdhfabjkpffhnaaDoor
set_option maxRecDepth 20000
open Go.RowKit ShaMath LeafMath PathMath Reg

def SplitAtU (n : Nat) (w : World) (s : Value) (wr : World) : Prop := ∃ k j : Nat, k = 2 ^ j ∧ k ≤ splitN n ∧ s = .int .u64 (k : Int) ∧ wr = w

def natOf (v : Value) : Nat := match v with | .int _ z => z.toNat | _ => 0

theorem refsplit15_any (n : Nat) (w : World) (h1 : 1 ≤ n) (hn : n < 18446744073709551616) :
    Calls Tryd.prog 92 #[.int .u64 (n : Int)] w fun e w' => e = .returned (.int .u64 (splitN n : Int)) ∧ w' = w := by
  have hstart : SplitAtU n w (.int .u64 1) w := ⟨1, 0, rfl, splitN_pos n, rfl, rfl⟩
  have HS := Lib.hid hstart
  clear hstart
  go_enter Tryd.func92, Tryd.ntmps92
  go_wp2
  go_loopw [3] (fun s3 wr => SplitAtU n w s3 wr) (fun s3 _ => 2 * n - natOf s3)
  case atStart => exact HS.out
  case round =>
    obtain ⟨k, j, hk, hle, rfl, rfl⟩ := hrel
    have hk1 : 1 ≤ k := by rw [hk]; exact Nat.pow_pos (by decide)
    have HK := Lib.hid hk
    have HLe := Lib.hid hle
    have hkn : k ≤ n := by
      by_cases h2 : 2 ≤ n
      · have := splitN_lt h2
        omega
      · obtain rfl : n = 1 := by omega
        have : splitN 1 = 1 := by decide +kernel
        omega
    clear hk hle HS
    by_cases hlt : k * 2 < n
    · obtain ⟨d, hd⟩ : ∃ d : Nat, (n : Int) - (k : Int) = (d : Int) := ⟨n - k, by omega⟩
      have hkd : (k : Int) < (d : Int) := by omega
      obtain ⟨m, hm⟩ : ∃ m : Nat, (k : Int) * 2 = (m : Int) := ⟨k * 2, by omega⟩
      have hm2 : m = k * 2 := by omega
      have hmn : m ≤ n := by omega
      have HM2 := Lib.hid hm2
      have HLt := Lib.hid hlt
      clear hm2 hlt
      go_wp2
      go_roundw
      case rel =>
        obtain ⟨a, b⟩ := split_more HK.out hk1 HLt.out
        exact ⟨m, j + 1, by rw [HM2.out]; exact a, by rw [HM2.out]; exact b, rfl, rfl⟩
      case measure =>
        have := HM2.out
        simp only [natOf, Int.toNat_natCast]
        omega
    · obtain ⟨d, hd⟩ : ∃ d : Nat, (n : Int) - (k : Int) = (d : Int) := ⟨n - k, by omega⟩
      have hkd : ¬ (k : Int) < (d : Int) := by omega
      have HLt := Lib.hid hlt
      clear hlt
      go_wp2
      go_ret
      exact ⟨by rw [← split_done HK.out HLe.out h1 (by have := HLt.out; omega)]; rfl, rfl⟩

theorem sizeP_64 (i n : Nat) (hn : n < 18446744073709551616) : sizeP i n ≤ 64 := sizeP_le 64 n i (by omega)

theorem refsize15_any : ∀ (n i : Nat) (w : World), n < 18446744073709551616 → i < 18446744073709551616 →
    Calls Tryd.prog 86 #[.int .u64 (i : Int), .int .u64 (n : Int)] w fun e w' => e = .returned (.int .i64 (sizeP i n : Int)) ∧ w' = w := by
  intro n
  induction n using Nat.strongRecOn with
  | ind n ih =>
    intro i w hn hi
    by_cases hin : i < n
    · by_cases h1 : n = 1
      · subst h1
        obtain rfl : i = 0 := by omega
        have e : sizeP 0 1 = 0 := sizeP_one 0
        rw [e]
        clear ih e
        go_enter Tryd.func86, Tryd.ntmps86
        go_wp2
        go_ret
        exact ⟨rfl, rfl⟩
      · have h2 : 2 ≤ n := by omega
        have hlt := splitN_lt h2
        have hp := splitN_pos n
        have hb := sizeP_64 i n hn
        obtain ⟨k, hk⟩ : ∃ k, k = splitN n := ⟨_, rfl⟩
        have HSplit := Lib.hid (refsplit15_any n w (by omega) hn)
        rw [← hk] at HSplit hlt hp
        have hne : ¬ (n : Int) = 1 := by omega
        have hige : ¬ (i : Int) ≥ (n : Int) := by omega
        by_cases hik : i < k
        · have hs := sizeP_left h2 (i := i) (by rw [← hk]; exact hik)
          rw [← hk] at hs
          have HR := Lib.hid (ih k hlt i w (by omega) hi)
          obtain ⟨z, hz⟩ : ∃ z, z = sizeP i k := ⟨_, rfl⟩
          rw [← hz] at HR hs
          have hz1 : (z : Int) + 1 = (sizeP i n : Int) := by omega
          obtain ⟨y, hy⟩ : ∃ y, y = sizeP i n := ⟨_, rfl⟩
          rw [← hy] at hz1 hb ⊢
          clear ih hs hk hz hy
          go_enter Tryd.func86, Tryd.ntmps86
          go_wp2_with fail
          refine HSplit.out.mono ?_
          rintro e w2 ⟨rfl, rfl⟩
          go_wp2_with fail
          refine HR.out.mono ?_
          rintro e w2 ⟨rfl, rfl⟩
          go_wp2
          go_ret
          exact ⟨rfl, rfl⟩
        · have hs := sizeP_right h2 (i := i) (by rw [← hk]; exact hik) hin
          rw [← hk] at hs
          obtain ⟨i', hi'⟩ : ∃ i' : Nat, (i : Int) - (k : Int) = (i' : Int) := ⟨i - k, by omega⟩
          obtain ⟨n', hn'⟩ : ∃ n' : Nat, (n : Int) - (k : Int) = (n' : Int) := ⟨n - k, by omega⟩
          have ei : i - k = i' := by omega
          have en : n - k = n' := by omega
          rw [ei, en] at hs
          have hi'b : i' < 18446744073709551616 := by omega
          have hn'b : n' < 18446744073709551616 := by omega
          have HR := Lib.hid (ih n' (by omega) i' w (by omega) (by omega))
          obtain ⟨z, hz⟩ : ∃ z, z = sizeP i' n' := ⟨_, rfl⟩
          rw [← hz] at HR hs
          have hz1 : (z : Int) + 1 = (sizeP i n : Int) := by omega
          obtain ⟨y, hy⟩ : ∃ y, y = sizeP i n := ⟨_, rfl⟩
          rw [← hy] at hz1 hb ⊢
          clear ih hs hk hz hy ei en
          go_enter Tryd.func86, Tryd.ntmps86
          go_wp2_with fail
          refine HSplit.out.mono ?_
          rintro e w2 ⟨rfl, rfl⟩
          go_wp2_with fail
          refine HR.out.mono ?_
          rintro e w2 ⟨rfl, rfl⟩
          go_wp2
          go_ret
          exact ⟨rfl, rfl⟩
    · have e : sizeP i n = 0 := sizeP_out i n (by omega)
      have hige : (i : Int) ≥ (n : Int) := by omega
      rw [e]
      clear ih e
      go_enter Tryd.func86, Tryd.ntmps86
      go_wp2
      go_ret
      exact ⟨rfl, rfl⟩
end Go.Proofs.YtdhfabjkpffhnaaDoor

/- Layer 15's reference: up, the climb by a proof of the right length. -/
namespace Go.Proofs.YtdhfabjkpffhnaaDoor
set_option maxRecDepth 20000
open Go.RowKit ShaMath LeafMath PathMath Reg

theorem sub_u64 (x y z : Int) (t : TypeId) (a b : Operand) (hz : x - y = z) (hb : 0 ≤ z ∧ z < 18446744073709551616) (W : World) : (do eqGuard .sub t a b (.int .u64 x) (.int .u64 y); binOp .sub t (.int .u64 x) (.int .u64 y) : Sem Value).run Tryd.prog W = .ok (.int .u64 z) W := by
  have h : IntKind.u64.wrap (x - y) = z := by
    rw [IntKind.wrap_u64]
    omega
  simp [eqGuard, binOp, go_sem, h]

theorem sliced_zero2 (a : Option Addr) (k c : Nat) : sliced a 0 k c 32 = .slice a k c := by
  unfold sliced
  have : a.map (fun x : Addr => x.add (0 * 32)) = a := by cases a <;> simp [Addr.add]
  rw [this]
  simp

/-- A hash in a block of the call's own, and a result's block. -/
def UpW (w : World) (h : Hs) (W : World) : Prop := Blk W w.heap.size 24 (bs h) ∧ (∃ zs, Blk W (w.heap.size + 1) 24 zs ∧ zs.size = 32) ∧ Below w.heap.size w W
theorem UpW.new (w : World) (h : Hs) : UpW w h ((w.alloc (.cells (bs h) 24)).alloc (.cells (bs (List.replicate 32 0)) 24)) :=
  ⟨(Blk.new w _ _).alloc _, ⟨_, Blk.newAt _ _ _ _ _ (by simp) rfl, rfl⟩, ((Below.refl _ _).alloc (Nat.le_refl _) _).alloc (by simp) _⟩
theorem UpW.keep {w W W' : World} {h : Hs} (H : UpW w h W) (hb : Below W.heap.size W W') : UpW w h W' := by
  obtain ⟨h1, ⟨zs, h2, h3⟩, h4⟩ := H
  exact ⟨h1.keep hb, ⟨zs, h2.keep hb, h3⟩, h4.trans (hb.mono h4.size)⟩

set_option maxHeartbeats 2000000 in
set_option maxRecDepth 100000 in
theorem refup_any (n : Int) (hn : I64 n) : ∀ (m i : Nat) (h : Hs) (ps : List Hs) (v : Value) (w : World), h.length = 32 → i < m → m < 18446744073709551616 → Hss w v ps → ps.length = sizeP i m → Consts w →
    Calls Tryd.prog 87 #[.int .i64 n, .agg (bs h), .int .u64 (i : Int), .int .u64 (m : Int), v] w fun e w' => e = .returned (.agg (bs (climbP n i m ps h))) ∧ Below w.heap.size w w' := by
  intro m
  induction m using Nat.strongRecOn with
  | ind m ih =>
    intro i h ps v w hh him hm hv hl hk
    have HP := Lib.hid (UpW.new w h)
    have HSh := Lib.hid (size_hash (cs := bs h) (by rw [bs_size, hh]))
    have Hh := Lib.hid hh
    by_cases h1 : m = 1
    · subst h1
      rw [climbP_one n i 1 ps h (by decide)]
      obtain ⟨a, c, rfl, _⟩ := hv.form
      clear ih hh hv hl hk him
      go_enter Tryd.func87, Tryd.ntmps87
      go_upto_region 1 with fail
      refine world_cut (fun W => UpW w h W) HP.out ?_
      clear HP
      intro W1 hW1
      obtain ⟨b0, ⟨zs, hz1, hz2⟩, hb⟩ := hW1
      have B0 := Lib.hid b0
      have HZ := Lib.hid hz1
      have HZs := Lib.hid hz2
      have HB := Lib.hid hb
      clear b0 hz1 hz2 hb
      go_wp2_with (first
        | (refine wpList_load_row rfl 24 (.tmp 6) rfl w.heap.size rfl 24 (bs h) (0, 0) _ B0.out Tryd.underlying24 rfl HSh.out ?_)
        | (refine wpList_store_row rfl 24 (.tmp 10) (.tmp 15) rfl (w.heap.size + 1) (bs h) rfl rfl 24 _ HZ.out HSh.out (by rw [bs_size, Hh.out, HZs.out]) (bs_one _) ?_))
      exact bodyPost_ret (v := .agg (bs h)) (results_cell_row rfl _ _ (w.heap.size + 1) 24 (bs h) (0, 0) _ rfl (Blk.row HZ.out (bs h)) Tryd.underlying24 rfl HSh.out) rfl ⟨rfl, below_setRow HB.out _ _ (by omega)⟩
    · have h2 : 2 ≤ m := by omega
      have hlt := splitN_lt h2
      have hp0 := splitN_pos m
      obtain ⟨k, hk2⟩ : ∃ k, k = splitN m := ⟨_, rfl⟩
      have HSplit := Lib.hid (fun W => refsplit15_any m W (by omega) hm)
      rw [← hk2] at HSplit hlt hp0
      have hne : ¬ (m : Int) = 1 := by omega
      obtain ⟨p, hp⟩ : ∃ p, p = ps.length := ⟨_, rfl⟩
      have hpos : 0 < p := by
        by_cases hik : i < splitN m
        · rw [hp, hl, sizeP_left h2 hik]; omega
        · rw [hp, hl, sizeP_right h2 hik him]; omega
      have hp64 : p ≤ 64 := by rw [hp, hl]; exact sizeP_64 i m hm
      obtain ⟨z, hz⟩ : ∃ z : Nat, (p : Int) - 1 = (z : Int) := ⟨p - 1, by omega⟩
      have hzp : z + 1 = p := by omega
      obtain ⟨y, hy⟩ : ∃ y, ps[z]? = some y := ⟨ps[z]'(by omega), List.getElem?_eq_getElem _⟩
      have hlast : ps.getLastD [] = y := by
        obtain ⟨q, x, rfl⟩ : ∃ q x, ps = q ++ [x] := by
          have hne : ps ≠ [] := fun e => by rw [e] at hp; simp at hp; omega
          exact ⟨ps.dropLast, ps.getLast hne, (List.dropLast_concat_getLast hne).symm⟩
        have hzq : z = q.length := by simp at hp; omega
        rw [hzq] at hy
        simp at hy
        simp [hy]
      have hdl : ps.dropLast = ps.take z := by rw [List.dropLast_eq_take, ← hp]; congr 1; omega
      obtain ⟨pad, hpad, hcy⟩ : ∃ pad pc, v = .slice (some pad) p pc ∧ p ≤ pc := by
        obtain ⟨a, c, e, hc⟩ := hv.form
        rw [← hp] at e hc
        subst e
        obtain ⟨ad, rfl, _⟩ := hv.load hy
        exact ⟨ad, c, rfl, hc⟩
      obtain ⟨rfl, hpc⟩ := hcy
      obtain ⟨pc, hpcc⟩ : ∃ c, c = hpad := ⟨_, rfl⟩
      rw [← hpcc] at hv hpc ⊢
      clear hpcc
      have hy32 := hv.all.get hy
      have hv2 : Hss w (.slice (some pad) z pc) ps.dropLast := by
        have := hv.sub 0 z (by omega) (by omega)
        rw [sliced_zero2] at this
        rw [hdl]
        simpa using this
      have HLd := Lib.hid (fun (W : World) (hW : Below w.heap.size w W) => load_hash W (pad.add (z * 32)) y hy32 fun j u hj => by
        obtain ⟨ad2, e, h⟩ := (hv.below (Nat.le_refl _) hW).load hy
        cases e
        exact h j u hj)
      have HIx := Lib.hid (fun W => hss_index W pad p pc z (by omega))
      have HSl := Lib.hid (fun (W : World) => show (Instr.sliceAt 30 (.slice (some pad) p pc) none (some (.int .i64 (z : Int))) none).run Tryd.prog W = .ok (.slice (some pad) z pc) W by
        have h := slice_hs_to (some pad) p pc z (by omega) W
        rwa [sliced_zero2] at h)
      have hG : ∀ W W' : World, UpW w h W → Below W.heap.size W W' → UpW w h W' := fun W W' h h' => h.keep h'
      by_cases hik : i < k
      · have hs := sizeP_left h2 (i := i) (by rw [← hk2]; exact hik)
        rw [← hk2] at hs
        obtain ⟨U, hU, hU32⟩ : ∃ U, U = climbP n i k ps.dropLast h ∧ U.length = 32 := ⟨_, rfl, climbP_length n i k _ h hh⟩
        obtain ⟨R, hR, hR32⟩ : ∃ R, R = climbP n i m ps h ∧ R.length = 32 := ⟨_, rfl, climbP_length n i m _ h hh⟩
        have hnode : nodeH n U y = R := by rw [hR, climbP_left n ps h h2 (by rw [← hk2]; exact hik), hU, hlast, hk2]
        have HUp := Lib.hid (fun (W : World) (hW : Below w.heap.size w W) => ih k hlt i h ps.dropLast (.slice (some pad) z pc) W hh hik (by omega) (hv2.below (Nat.le_refl _) hW) (by rw [List.length_dropLast, hl, hs]; rfl) (hk.below (Nat.le_refl _) hW))
        have HNode := Lib.hid (fun (W : World) (hW : Below w.heap.size w W) => refnode_any n U y W hU32 hy32 hn (hk.below (Nat.le_refl _) hW))
        rw [← hU] at HUp
        rw [hnode] at HNode
        rw [← hR]
        have HSR := Lib.hid (size_hash (cs := bs R) (by rw [bs_size, hR32]))
        have HR32 := Lib.hid hR32
        have hik2 : (i : Int) < (k : Int) := by omega
        clear ih hh hv hl hk hs hU hU32 hR hR32 hnode hlast hdl hy hy32 hv2 hp hk2
        go_enter Tryd.func87, Tryd.ntmps87
        go_upto_region 1 with fail
        refine world_cut (fun W => UpW w h W) HP.out ?_
        clear HP
        intro W1 hW1
        have HW1 := Lib.hid hW1
        clear hW1
        go_wp2_with fail
        refine (HSplit.out _).mono ?_
        rintro e W2 ⟨rfl, rfl⟩
        go_upto_region 6 with fail
        refine region_tail_by 14 _ [(24, .is (.int .i64 n)), (25, .is (.int .i64 n)), (26, .is (.agg (bs h))), (27, .is (.int .u64 (i : Int))), (28, .is (.int .u64 (k : Int))), (29, .is (.slice (some pad) p pc)), (30, .is (.int .i64 (z : Int))), (31, .is (.slice (some pad) z pc)), (32, .is (.agg (bs U))), (33, .is (.slice (some pad) p pc)), (34, .is (.int .i64 (z : Int))), (35, .is (.pointer (some (pad.add (z * 32))))), (36, .is (.agg (bs y))), (37, .is (.agg (bs R)))] [10, 37] (fun W => UpW w h W) (by kernel_rfl) (by kernel_rfl) (by kernel_rfl) (by kernel_rfl) (by kernel_rfl) rfl rfl rfl rfl (by kernel_rfl) (hG _ _ HW1.out (Below.refl _ _).drew) ?_ ?_
        · refine ⟨?c0, ?c1, ?c2, ?c3, ?c4, ?c5, ?c6, ?c7, ?c8, ?c9, ?c10, ?c11, ?c12, ?c13, trivial⟩
          case c0 => exact ask_copy (guard_none rfl) (.tmp 0) (.inl rfl) (by intro k hk; cases hk; rfl)
          case c1 => exact ask_copy (guard_none rfl) (.tmp 0) (.inl rfl) (by intro k hk; cases hk; rfl)
          case c2 => exact ask_load (guard_none rfl) _ (.tmp 6) (.pointer (some ⟨w.heap.size, 0, none⟩)) (.agg (bs h)) rfl rfl (by intro k hk; cases hk; rfl) (fun W hW => hW.1.loads 24 _ Tryd.underlying24 rfl HSh.out)
          case c3 => exact ask_copy (guard_none rfl) (.tmp 2) (.inl rfl) (by intro k hk; cases hk; rfl)
          case c4 => exact ask_copy (guard_none rfl) (.tmp 11) (.inl rfl) (by intro k hk; cases hk; rfl)
          case c5 => exact ask_copy (guard_none rfl) (.tmp 4) (.inl rfl) (by intro k hk; cases hk; rfl)
          case c6 => exact ask_copy (guard_none rfl) (.tmp 12) (.inl rfl) (by intro k hk; cases hk; rfl)
          case c7 => exact ask_slice (guard_none rfl) _ (.tmp 29) none (some (.tmp 30)) none (.slice (some pad) p pc) (.slice (some pad) z pc) none (some (.int .i64 (z : Int))) none rfl rfl rfl rfl rfl (by intro k hk; cases hk; rfl) (HSl.out)
          case c8 => exact ask_call hG (guard_none rfl) _ _ _ #[.int .i64 n, .agg (bs h), .int .u64 (i : Int), .int .u64 (k : Int), .slice (some pad) z pc] (.is (.agg (bs U))) rfl (by kernel_rfl) rfl rfl (by intro k hk; cases hk; rfl) (fun W hW => (HUp.out W hW.2.2).mono fun e w' h => ⟨_, h.1, rfl, h.2⟩)
          case c9 => exact ask_copy (guard_none rfl) (.tmp 4) (.inl rfl) (by intro k hk; cases hk; rfl)
          case c10 => exact ask_copy (guard_none rfl) (.tmp 12) (.inl rfl) (by intro k hk; cases hk; rfl)
          case c11 => exact ask_idx (guard_none rfl) _ (.tmp 33) (.tmp 34) (.slice (some pad) p pc) (.int .i64 (z : Int)) (.pointer (some (pad.add (z * 32)))) rfl rfl rfl (by intro k hk; cases hk; rfl) HIx.out
          case c12 => exact ask_load (guard_none rfl) _ (.tmp 35) (.pointer (some (pad.add (z * 32)))) (.agg (bs y)) rfl rfl (by intro k hk; cases hk; rfl) (fun W hW => HLd.out W hW.2.2)
          case c13 => exact ask_call hG (guard_none rfl) _ _ _ #[.int .i64 n, .agg (bs U), .agg (bs y)] (.is (.agg (bs R))) rfl (by kernel_rfl) rfl rfl (by intro k hk; cases hk; rfl) (fun W hW => (HNode.out W hW.2.2).mono fun e w' h => ⟨_, h.1, rfl, h.2⟩)
        · intro a' W hW hd' hs' hf'
          have t10 : a'.tmps.getD 10 undef = .pointer (some ⟨w.heap.size + 1, 0, none⟩) := hf' 10 rfl
          have t37 : a'.tmps.getD 37 undef = .agg (bs R) := hf' 37 rfl
          obtain ⟨us', hus, ha'⟩ := act_open 56 a' hs' hd'
          rw [← hus] at t10 t37
          have el : ((List.range 56).map us').toArray = #[us' 0, us' 1, us' 2, us' 3, us' 4, us' 5, us' 6, us' 7, us' 8, us' 9, .pointer (some ⟨w.heap.size + 1, 0, none⟩), us' 11, us' 12, us' 13, us' 14, us' 15, us' 16, us' 17, us' 18, us' 19, us' 20, us' 21, us' 22, us' 23, us' 24, us' 25, us' 26, us' 27, us' 28, us' 29, us' 30, us' 31, us' 32, us' 33, us' 34, us' 35, us' 36, .agg (bs R), us' 38, us' 39, us' 40, us' 41, us' 42, us' 43, us' 44, us' 45, us' 46, us' 47, us' 48, us' 49, us' 50, us' 51, us' 52, us' 53, us' 54, us' 55] := by
            show #[us' 0, us' 1, us' 2, us' 3, us' 4, us' 5, us' 6, us' 7, us' 8, us' 9, us' 10, us' 11, us' 12, us' 13, us' 14, us' 15, us' 16, us' 17, us' 18, us' 19, us' 20, us' 21, us' 22, us' 23, us' 24, us' 25, us' 26, us' 27, us' 28, us' 29, us' 30, us' 31, us' 32, us' 33, us' 34, us' 35, us' 36, us' 37, us' 38, us' 39, us' 40, us' 41, us' 42, us' 43, us' 44, us' 45, us' 46, us' 47, us' 48, us' 49, us' 50, us' 51, us' 52, us' 53, us' 54, us' 55] = _
            rw [t10, t37]
          rw [el] at ha'
          subst ha'
          clear hus t10 t37 el hf' hs' hd'
          obtain ⟨-, ⟨zs, hz1, hz2⟩, hB5⟩ := hW
          have HZ := Lib.hid hz1
          have HZs := Lib.hid hz2
          have HB5 := Lib.hid hB5
          clear hz1 hz2 hB5 hG
          go_wp2_with (refine wpList_store_row rfl 24 (.tmp 10) (.tmp 37) rfl (w.heap.size + 1) (bs R) rfl rfl 24 _ HZ.out HSR.out (by rw [bs_size, HR32.out, HZs.out]) (bs_one _) ?_)
          exact bodyPost_ret (v := .agg (bs R)) (results_cell_row rfl _ _ (w.heap.size + 1) 24 (bs R) (0, 0) _ rfl (Blk.row HZ.out (bs R)) Tryd.underlying24 rfl HSR.out) rfl ⟨rfl, below_setRow HB5.out _ _ (by omega)⟩
      · have hs := sizeP_right h2 (i := i) (by rw [← hk2]; exact hik) him
        rw [← hk2] at hs
        obtain ⟨i2, hi2⟩ : ∃ i2 : Nat, (i : Int) - (k : Int) = (i2 : Int) := ⟨i - k, by omega⟩
        obtain ⟨m2, hm2⟩ : ∃ m2 : Nat, (m : Int) - (k : Int) = (m2 : Int) := ⟨m - k, by omega⟩
        have ei : i - k = i2 := by omega
        have em : m - k = m2 := by omega
        rw [ei, em] at hs
        obtain ⟨U, hU, hU32⟩ : ∃ U, U = climbP n i2 m2 ps.dropLast h ∧ U.length = 32 := ⟨_, rfl, climbP_length n i2 m2 _ h hh⟩
        obtain ⟨R, hR, hR32⟩ : ∃ R, R = climbP n i m ps h ∧ R.length = 32 := ⟨_, rfl, climbP_length n i m _ h hh⟩
        have hnode : nodeH n y U = R := by rw [hR, climbP_right n ps h h2 (by rw [← hk2]; exact hik), hU, hlast, ← ei, ← em, hk2]
        have hi2b : i2 < 18446744073709551616 := by omega
        have hm2b : m2 < 18446744073709551616 := by omega
        have HUp := Lib.hid (fun (W : World) (hW : Below w.heap.size w W) => ih m2 (by omega) i2 h ps.dropLast (.slice (some pad) z pc) W hh (by omega) hm2b (hv2.below (Nat.le_refl _) hW) (by rw [List.length_dropLast, hl, hs]; rfl) (hk.below (Nat.le_refl _) hW))
        have HNode := Lib.hid (fun (W : World) (hW : Below w.heap.size w W) => refnode_any n y U W hy32 hU32 hn (hk.below (Nat.le_refl _) hW))
        rw [← hU] at HUp
        rw [hnode] at HNode
        rw [← hR]
        have HSR := Lib.hid (size_hash (cs := bs R) (by rw [bs_size, hR32]))
        have HR32 := Lib.hid hR32
        have HI2 := Lib.hid hi2
        have HM2 := Lib.hid hm2
        have hik2 : ¬ (i : Int) < (k : Int) := by omega
        clear ih hh hv hl hk hs hU hU32 hR hR32 hnode hlast hdl hy hy32 hv2 hp hk2 ei em hi2 hm2
        go_enter Tryd.func87, Tryd.ntmps87
        go_upto_region 1 with fail
        refine world_cut (fun W => UpW w h W) HP.out ?_
        clear HP
        intro W1 hW1
        have HW1 := Lib.hid hW1
        clear hW1
        go_wp2_with fail
        refine (HSplit.out _).mono ?_
        rintro e W2 ⟨rfl, rfl⟩
        go_upto_region 7 with fail
        refine region_tail_by 18 _ [(38, .is (.int .i64 n)), (39, .is (.slice (some pad) p pc)), (40, .is (.int .i64 (z : Int))), (41, .is (.pointer (some (pad.add (z * 32))))), (42, .is (.agg (bs y))), (43, .is (.int .i64 n)), (44, .is (.agg (bs h))), (45, .is (.int .u64 (i : Int))), (46, .is (.int .u64 (k : Int))), (47, .is (.int .u64 (i2 : Int))), (48, .is (.int .u64 (m : Int))), (49, .is (.int .u64 (k : Int))), (50, .is (.int .u64 (m2 : Int))), (51, .is (.slice (some pad) p pc)), (52, .is (.int .i64 (z : Int))), (53, .is (.slice (some pad) z pc)), (54, .is (.agg (bs U))), (55, .is (.agg (bs R)))] [10, 55] (fun W => UpW w h W) (by kernel_rfl) (by kernel_rfl) (by kernel_rfl) (by kernel_rfl) (by kernel_rfl) rfl rfl rfl rfl (by kernel_rfl) (hG _ _ HW1.out (Below.refl _ _).drew) ?_ ?_
        · refine ⟨?c0, ?c1, ?c2, ?c3, ?c4, ?c5, ?c6, ?c7, ?c8, ?c9, ?c10, ?c11, ?c12, ?c13, ?c14, ?c15, ?c16, ?c17, trivial⟩
          case c0 => exact ask_copy (guard_none rfl) (.tmp 0) (.inl rfl) (by intro k hk; cases hk; rfl)
          case c1 => exact ask_copy (guard_none rfl) (.tmp 4) (.inl rfl) (by intro k hk; cases hk; rfl)
          case c2 => exact ask_copy (guard_none rfl) (.tmp 12) (.inl rfl) (by intro k hk; cases hk; rfl)
          case c3 => exact ask_idx (guard_none rfl) _ (.tmp 39) (.tmp 40) (.slice (some pad) p pc) (.int .i64 (z : Int)) (.pointer (some (pad.add (z * 32)))) rfl rfl rfl (by intro k hk; cases hk; rfl) HIx.out
          case c4 => exact ask_load (guard_none rfl) _ (.tmp 41) (.pointer (some (pad.add (z * 32)))) (.agg (bs y)) rfl rfl (by intro k hk; cases hk; rfl) (fun W hW => HLd.out W hW.2.2)
          case c5 => exact ask_copy (guard_none rfl) (.tmp 0) (.inl rfl) (by intro k hk; cases hk; rfl)
          case c6 => exact ask_load (guard_none rfl) _ (.tmp 6) (.pointer (some ⟨w.heap.size, 0, none⟩)) (.agg (bs h)) rfl rfl (by intro k hk; cases hk; rfl) (fun W hW => hW.1.loads 24 _ Tryd.underlying24 rfl HSh.out)
          case c7 => exact ask_copy (guard_none rfl) (.tmp 2) (.inl rfl) (by intro k hk; cases hk; rfl)
          case c8 => exact ask_copy (guard_none rfl) (.tmp 11) (.inl rfl) (by intro k hk; cases hk; rfl)
          case c9 => exact ask_bin (guard_none rfl) .sub _ _ (.tmp 45) (.tmp 46) (.int .u64 (i : Int)) (.int .u64 (k : Int)) (.int .u64 (i2 : Int)) rfl rfl rfl (by intro k hk; cases hk; rfl) (fun W => sub_u64 _ _ _ _ _ _ HI2.out (by omega) W)
          case c10 => exact ask_copy (guard_none rfl) (.tmp 3) (.inl rfl) (by intro k hk; cases hk; rfl)
          case c11 => exact ask_copy (guard_none rfl) (.tmp 11) (.inl rfl) (by intro k hk; cases hk; rfl)
          case c12 => exact ask_bin (guard_none rfl) .sub _ _ (.tmp 48) (.tmp 49) (.int .u64 (m : Int)) (.int .u64 (k : Int)) (.int .u64 (m2 : Int)) rfl rfl rfl (by intro k hk; cases hk; rfl) (fun W => sub_u64 _ _ _ _ _ _ HM2.out (by omega) W)
          case c13 => exact ask_copy (guard_none rfl) (.tmp 4) (.inl rfl) (by intro k hk; cases hk; rfl)
          case c14 => exact ask_copy (guard_none rfl) (.tmp 12) (.inl rfl) (by intro k hk; cases hk; rfl)
          case c15 => exact ask_slice (guard_none rfl) _ (.tmp 51) none (some (.tmp 52)) none (.slice (some pad) p pc) (.slice (some pad) z pc) none (some (.int .i64 (z : Int))) none rfl rfl rfl rfl rfl (by intro k hk; cases hk; rfl) (HSl.out)
          case c16 => exact ask_call hG (guard_none rfl) _ _ _ #[.int .i64 n, .agg (bs h), .int .u64 (i2 : Int), .int .u64 (m2 : Int), .slice (some pad) z pc] (.is (.agg (bs U))) rfl (by kernel_rfl) rfl rfl (by intro k hk; cases hk; rfl) (fun W hW => (HUp.out W hW.2.2).mono fun e w' h => ⟨_, h.1, rfl, h.2⟩)
          case c17 => exact ask_call hG (guard_none rfl) _ _ _ #[.int .i64 n, .agg (bs y), .agg (bs U)] (.is (.agg (bs R))) rfl (by kernel_rfl) rfl rfl (by intro k hk; cases hk; rfl) (fun W hW => (HNode.out W hW.2.2).mono fun e w' h => ⟨_, h.1, rfl, h.2⟩)
        · intro a' W hW hd' hs' hf'
          have t10 : a'.tmps.getD 10 undef = .pointer (some ⟨w.heap.size + 1, 0, none⟩) := hf' 10 rfl
          have t55 : a'.tmps.getD 55 undef = .agg (bs R) := hf' 55 rfl
          obtain ⟨us', hus, ha'⟩ := act_open 56 a' hs' hd'
          rw [← hus] at t10 t55
          have el : ((List.range 56).map us').toArray = #[us' 0, us' 1, us' 2, us' 3, us' 4, us' 5, us' 6, us' 7, us' 8, us' 9, .pointer (some ⟨w.heap.size + 1, 0, none⟩), us' 11, us' 12, us' 13, us' 14, us' 15, us' 16, us' 17, us' 18, us' 19, us' 20, us' 21, us' 22, us' 23, us' 24, us' 25, us' 26, us' 27, us' 28, us' 29, us' 30, us' 31, us' 32, us' 33, us' 34, us' 35, us' 36, us' 37, us' 38, us' 39, us' 40, us' 41, us' 42, us' 43, us' 44, us' 45, us' 46, us' 47, us' 48, us' 49, us' 50, us' 51, us' 52, us' 53, us' 54, .agg (bs R)] := by
            show #[us' 0, us' 1, us' 2, us' 3, us' 4, us' 5, us' 6, us' 7, us' 8, us' 9, us' 10, us' 11, us' 12, us' 13, us' 14, us' 15, us' 16, us' 17, us' 18, us' 19, us' 20, us' 21, us' 22, us' 23, us' 24, us' 25, us' 26, us' 27, us' 28, us' 29, us' 30, us' 31, us' 32, us' 33, us' 34, us' 35, us' 36, us' 37, us' 38, us' 39, us' 40, us' 41, us' 42, us' 43, us' 44, us' 45, us' 46, us' 47, us' 48, us' 49, us' 50, us' 51, us' 52, us' 53, us' 54, us' 55] = _
            rw [t10, t55]
          rw [el] at ha'
          subst ha'
          clear hus t10 t55 el hf' hs' hd'
          obtain ⟨-, ⟨zs, hz1, hz2⟩, hB5⟩ := hW
          have HZ := Lib.hid hz1
          have HZs := Lib.hid hz2
          have HB5 := Lib.hid hB5
          clear hz1 hz2 hB5 hG
          go_wp2_with (refine wpList_store_row rfl 24 (.tmp 10) (.tmp 55) rfl (w.heap.size + 1) (bs R) rfl rfl 24 _ HZ.out HSR.out (by rw [bs_size, HR32.out, HZs.out]) (bs_one _) ?_)
          exact bodyPost_ret (v := .agg (bs R)) (results_cell_row rfl _ _ (w.heap.size + 1) 24 (bs R) (0, 0) _ rfl (Blk.row HZ.out (bs R)) Tryd.underlying24 rfl HSR.out) rfl ⟨rfl, below_setRow HB5.out _ _ (by omega)⟩
end Go.Proofs.YtdhfabjkpffhnaaDoor

/- Layer 15's reference: Climb. -/
namespace Go.Proofs.YtdhfabjkpffhnaaDoor
set_option maxRecDepth 20000
open Go.RowKit ShaMath LeafMath PathMath Reg

/-- What Climb answers. -/
def climbR (n : Int) (h : Hs) (i m : Nat) (ps : List Hs) : Hs × Nat :=
  if m ≤ i then (z32, 9) else if ps.length < sizeP i m then (z32, 2) else if sizeP i m < ps.length then (z32, 4) else (climbP n i m ps h, 0)

theorem climbR_32 (n : Int) (h : Hs) (i m : Nat) (ps : List Hs) (hh : h.length = 32) : (climbR n h i m ps).1.length = 32 := by
  unfold climbR
  split
  · rfl
  · split
    · rfl
    · split
      · rfl
      · exact climbP_length n i m ps h hh

set_option maxHeartbeats 2000000 in
set_option maxRecDepth 100000 in
theorem refclimb_any (n : Int) (hn : I64 n) (h : Hs) (i m : Nat) (ps : List Hs) (v : Value) (w : World) (hh : h.length = 32) (hi : i < 18446744073709551616) (hm : m < 18446744073709551616) (hv : Hss w v ps) (hk : Consts w) :
    Calls Tryd.prog 67 #[.int .i64 n, .agg (bs h), .int .u64 (i : Int), .int .u64 (m : Int), v] w fun e w' => e = .returned (.tuple #[.agg (bs (climbR n h i m ps).1), .int .i64 ((climbR n h i m ps).2 : Int)]) ∧ Below w.heap.size w w' := by
  have HP := Lib.hid (UpW.new w h)
  obtain ⟨pa, pc, rfl, _⟩ := hv.form
  obtain ⟨p, hp⟩ : ∃ p, p = ps.length := ⟨_, rfl⟩
  rw [← hp] at hv ⊢
  obtain ⟨S, hS⟩ : ∃ S, S = sizeP i m := ⟨_, rfl⟩
  have hSb : S ≤ 64 := by rw [hS]; exact sizeP_64 i m hm
  have HSize := Lib.hid (fun W => refsize15_any m i W hm hi)
  rw [← hS] at HSize
  obtain ⟨zz, hzz⟩ : ∃ z, z = z32 := ⟨_, rfl⟩
  have hz32 : zz.length = 32 := by rw [hzz]; rfl
  have HZ := Lib.hid (size_hash (cs := bs zz) (by rw [bs_size, hz32]))
  have HZ32 := Lib.hid hz32
  have HZe := Lib.hid (show bs zz = bs (List.replicate 32 0) by rw [hzz]; rfl)
  by_cases h1 : m ≤ i
  · have hr : climbR n h i m ps = (zz, 9) := by rw [climbR, if_pos h1, hzz]
    rw [hr]
    have hge : (i : Int) ≥ (m : Int) := by omega
    clear hv hk hr hzz hz32 hh hS hp h1
    go_enter Tryd.func67, Tryd.ntmps67
    go_upto_region 1 with fail
    refine world_cut (fun W => UpW w h W) HP.out ?_
    clear HP
    intro W1 hW1
    obtain ⟨b0, ⟨zs, hz1, hz2⟩, hb⟩ := hW1
    have HZ1 := Lib.hid hz1
    have HZ2 := Lib.hid hz2
    have HB := Lib.hid hb
    clear b0 hz1 hz2 hb
    go_wp2_with (refine wpList_store_row rfl 24 (.tmp 10) (.tmp 15) rfl (w.heap.size + 1) (bs zz) rfl (by rw [HZe.out]; rfl) 24 _ HZ1.out HZ.out (by rw [bs_size, HZ32.out, HZ2.out]) (bs_one _) ?_)
    exact bodyPost_ret (v := .tuple #[.agg (bs zz), .int .i64 9]) (ret_hash rfl _ _ (w.heap.size + 1) (bs zz) _ (by rw [bs_size, HZ32.out]) rfl rfl (Blk.row HZ1.out (bs zz))) rfl ⟨rfl, below_setRow HB.out _ _ (by omega)⟩
  · have hge : ¬ (i : Int) ≥ (m : Int) := by omega
    by_cases h2 : p < S
    · have hr : climbR n h i m ps = (zz, 2) := by rw [climbR, if_neg h1, if_pos (by rw [← hp, ← hS]; exact h2), hzz]
      rw [hr]
      clear hv hk hr hzz hz32 hh hS hp h1
      go_enter Tryd.func67, Tryd.ntmps67
      go_upto_region 1 with fail
      refine world_cut (fun W => UpW w h W) HP.out ?_
      clear HP
      intro W1 hW1
      obtain ⟨b0, ⟨zs, hz1, hz2⟩, hb⟩ := hW1
      have HZ1 := Lib.hid hz1
      have HZ2 := Lib.hid hz2
      have HB := Lib.hid hb
      clear b0 hz1 hz2 hb
      go_wp2_with fail
      refine (HSize.out _).mono ?_
      rintro e W2 ⟨rfl, rfl⟩
      go_wp2_with (refine wpList_store_row rfl 24 (.tmp 10) (.tmp 22) rfl (w.heap.size + 1) (bs zz) rfl (by rw [HZe.out]; rfl) 24 _ HZ1.out HZ.out (by rw [bs_size, HZ32.out, HZ2.out]) (bs_one _) ?_)
      exact bodyPost_ret (v := .tuple #[.agg (bs zz), .int .i64 2]) (ret_hash rfl _ _ (w.heap.size + 1) (bs zz) _ (by rw [bs_size, HZ32.out]) rfl rfl (Blk.row HZ1.out (bs zz))) rfl ⟨rfl, below_setRow HB.out _ _ (by omega)⟩
    · by_cases h3 : S < p
      · have hr : climbR n h i m ps = (zz, 4) := by rw [climbR, if_neg h1, if_neg (by rw [← hp, ← hS]; exact h2), if_pos (by rw [← hp, ← hS]; exact h3), hzz]
        rw [hr]
        clear hv hk hr hzz hz32 hh hS hp h1
        go_enter Tryd.func67, Tryd.ntmps67
        go_upto_region 1 with fail
        refine world_cut (fun W => UpW w h W) HP.out ?_
        clear HP
        intro W1 hW1
        obtain ⟨b0, ⟨zs, hz1, hz2⟩, hb⟩ := hW1
        have HZ1 := Lib.hid hz1
        have HZ2 := Lib.hid hz2
        have HB := Lib.hid hb
        clear b0 hz1 hz2 hb
        go_wp2_with fail
        refine (HSize.out _).mono ?_
        rintro e W2 ⟨rfl, rfl⟩
        go_wp2_with fail
        refine (HSize.out _).mono ?_
        rintro e W2 ⟨rfl, rfl⟩
        go_wp2_with (refine wpList_store_row rfl 24 (.tmp 10) (.tmp 29) rfl (w.heap.size + 1) (bs zz) rfl (by rw [HZe.out]; rfl) 24 _ HZ1.out HZ.out (by rw [bs_size, HZ32.out, HZ2.out]) (bs_one _) ?_)
        exact bodyPost_ret (v := .tuple #[.agg (bs zz), .int .i64 4]) (ret_hash rfl _ _ (w.heap.size + 1) (bs zz) _ (by rw [bs_size, HZ32.out]) rfl rfl (Blk.row HZ1.out (bs zz))) rfl ⟨rfl, below_setRow HB.out _ _ (by omega)⟩
      · have hr : climbR n h i m ps = (climbP n i m ps h, 0) := by rw [climbR, if_neg h1, if_neg (by rw [← hp, ← hS]; exact h2), if_neg (by rw [← hp, ← hS]; exact h3)]
        rw [hr]
        obtain ⟨U, hU, hU32⟩ : ∃ U, U = climbP n i m ps h ∧ U.length = 32 := ⟨_, rfl, climbP_length n i m _ h hh⟩
        have HUp := Lib.hid (fun (W : World) (hW : Below w.heap.size w W) => refup_any n hn m i h ps (.slice pa p pc) W hh (by omega) hm (hv.below (Nat.le_refl _) hW) (by omega) (hk.below (Nat.le_refl _) hW))
        rw [← hU] at HUp ⊢
        have HSU := Lib.hid (size_hash (cs := bs U) (by rw [bs_size, hU32]))
        have HU32 := Lib.hid hU32
        have HSh := Lib.hid (size_hash (cs := bs h) (by rw [bs_size, hh]))
        obtain rfl : p = S := by omega
        clear hv hk hr hzz hz32 hh hS hp h1 hU hU32 h2 h3 HZe
        go_enter Tryd.func67, Tryd.ntmps67
        go_upto_region 1 with fail
        refine world_cut (fun W => UpW w h W) HP.out ?_
        clear HP
        intro W1 hW1
        have HW1 := Lib.hid hW1
        clear hW1
        go_wp2_with fail
        refine (HSize.out _).mono ?_
        rintro e W2 ⟨rfl, rfl⟩
        go_wp2_with fail
        refine (HSize.out _).mono ?_
        rintro e W2 ⟨rfl, rfl⟩
        go_wp2_with (refine wpList_load_row rfl 24 (.tmp 6) rfl w.heap.size rfl 24 (bs h) (0, 0) _ HW1.out.1 Tryd.underlying24 rfl HSh.out ?_)
        refine (HUp.out _ HW1.out.2.2).mono ?_
        rintro e W3 ⟨rfl, hb3⟩
        obtain ⟨-, ⟨zs, hz1, hz2⟩, hb⟩ := HW1.out.keep hb3
        have HZ1 := Lib.hid hz1
        have HZ2 := Lib.hid hz2
        have HB := Lib.hid hb
        clear hz1 hz2 hb hb3 HUp
        go_wp2_with (refine wpList_store_row rfl 24 (.tmp 10) (.tmp 35) rfl (w.heap.size + 1) (bs U) rfl rfl 24 _ HZ1.out HSU.out (by rw [bs_size, HU32.out, HZ2.out]) (bs_one _) ?_)
        exact bodyPost_ret (v := .tuple #[.agg (bs U), .int .i64 0]) (ret_hash rfl _ _ (w.heap.size + 1) (bs U) _ (by rw [bs_size, HU32.out]) rfl rfl (Blk.row HZ1.out (bs U))) rfl ⟨rfl, below_setRow HB.out _ _ (by omega)⟩
end Go.Proofs.YtdhfabjkpffhnaaDoor

/- Layer 15's reference: Prove. -/
namespace Go.Proofs.YtdhfabjkpffhnaaDoor
set_option maxRecDepth 20000
open Go.RowKit ShaMath LeafMath PathMath Reg

theorem wpList_slice_by {P : Program} {w : World} {ops : Array Oper} {rest : List Oper} {o : Oper} {a : Act} {Q : Exit → Act → World → Prop} (hgd : o.guard = none) (ty : TypeId) (s : Operand) (lo hi : Option Operand) (ho : o.op = .slice ty s lo hi none)
    (v c : Value) (lo' hi' : Option Value) (hs : a.eval s = v) (hlo : lo.map a.eval = lo') (hhi : hi.map a.eval = hi') (hr : (Instr.sliceAt ty v lo' hi' none).run P w = .ok c w) (h : wpList P ops Q rest (a.put o.dst c) w) : wpList P ops Q (o :: rest) a w := by
  subst hs hlo hhi
  refine wpList_plain hgd fun K hK => ?_
  unfold Oper.wp execOp
  simp only [ho, Option.map_none, Sem.run_bind, hr, Result.andThen_ok]
  exact hK _ _ h

theorem wpList_build_hash1 {w : World} {ops : Array Oper} {rest : List Oper} {o : Oper} {a : Act} {Q : Exit → Act → World → Prop} (hgd : o.guard = none) (s : Operand) (ho : o.op = .buildSlice 30 1 #[(0, s)])
    (cs : Array Value) (hx : a.eval s = .agg cs) (hc : cs.size = 32)
    (h : wpList Tryd.prog ops Q rest (a.put o.dst (.slice (some ⟨w.heap.size, 0, none⟩) 1 1)) (w.alloc (.cells cs 24))) : wpList Tryd.prog ops Q (o :: rest) a w := by
  refine wpList_plain hgd fun K hK => ?_
  unfold Oper.wp execOp
  simp only [ho, Sem.run_bind, List.map_toArray, List.map_cons, List.map_nil, hx, build_hash w cs hc, Result.andThen_ok]
  exact hK _ _ h

end Go.Proofs.YtdhfabjkpffhnaaDoor

