/- Joined: GrowthSize, GrowthUp, GrowthClimb, GrowthCheck. -/
import Derived.Test.YtdhfabjkpffhnaaDoorGCB
import Derived.Test.YtdhfabjkpffhnaaDoorGCG
import Derived.Test.YtdhfabjkpffhnaaDoorGCC
import Derived.Test.YtdhfabjkpffhnaaDoorGCI
import Derived.Test.YtdhfabjkpffhnaaDoorGrowthRefCheckC
/- Layer 16: the program's Size. -/
namespace Go.Proofs.YtdhfabjkpffhnaaDoor
set_option maxRecDepth 20000
open Go.RowKit ShaMath LeafMath PathMath GrowthMath Reg

def SizeAtG (i m : Nat) (w : World) (s0 s1 s5 s6 : Value) (wr : World) : Prop := ∃ (a b s : Nat) (o : Bool), s0 = .int .u64 (a : Int) ∧ s1 = .int .u64 (b : Int) ∧ s5 = .int .i64 (s : Int) ∧ s6 = .bool o ∧ s + sizeG a b o = sizeG i m true ∧ 1 ≤ a ∧ a ≤ b ∧ b < 18446744073709551616 ∧ wr = w

theorem gsize_any (i m : Nat) (w : World) (_ : i < 18446744073709551616) (hm : m < 18446744073709551616) :
    Calls Tryd.prog 88 #[.int .u64 (i : Int), .int .u64 (m : Int)] w fun e w' => e = .returned (.int .i64 (growS i m : Int)) ∧ w' = w := by
  by_cases h0 : i = 0
  · subst h0
    rw [growS, if_pos (.inl rfl)]
    go_enter Tryd.func88, Tryd.ntmps88
    go_wp2
    go_ret
    exact ⟨rfl, rfl⟩
  · have hz : ((i : Int) == 0) = false := by simpa using h0
    by_cases hc : m < i
    · rw [growS, if_pos (.inr hc)]
      have hgt : decide ((i : Int) > (m : Int)) = true := decide_eq_true (by omega)
      go_enter Tryd.func88, Tryd.ntmps88
      go_wp2
      go_ret
      exact ⟨rfl, rfl⟩
    · rw [growS, if_neg (by omega)]
      have hgt : decide ((i : Int) > (m : Int)) = false := decide_eq_false (by omega)
      have hS := sizeG_65 i m true (by omega) hm
      have hstart : SizeAtG i m w (.int .u64 (i : Int)) (.int .u64 (m : Int)) (.int .i64 0) (.bool true) w := ⟨i, m, 0, true, rfl, rfl, rfl, rfl, by omega, by omega, by omega, hm, rfl⟩
      obtain ⟨S, hSS⟩ : ∃ S, S = sizeG i m true := ⟨_, rfl⟩
      have HSS := Lib.hid hSS
      have HS := Lib.hid hstart
      rw [← hSS] at hS ⊢
      clear hstart hSS
      go_enter Tryd.func88, Tryd.ntmps88
      go_wp2
      go_loopw [0, 1, 5, 6] (fun s0 s1 s5 s6 wr => SizeAtG i m w s0 s1 s5 s6 wr) (fun _ s1 _ _ _ => natOf s1)
      case atStart => exact HS.out
      case round =>
        obtain ⟨a, b, s, o, rfl, rfl, rfl, rfl, hsum, ha1, hab, hb, rfl⟩ := hrel
        clear HS
        by_cases h1 : a < b
        · have h2 : 2 ≤ b := by omega
          have hlt := splitN_lt h2
          have hp := splitN_pos b
          obtain ⟨k, hk⟩ : ∃ k, k = splitN b := ⟨_, rfl⟩
          have HSplit := Lib.hid (fun W => splitAt_any b W h2 hb)
          rw [← hk] at HSplit hlt hp
          have hgt2 : (a : Int) < (b : Int) := by omega
          by_cases hak : a ≤ k
          · have hs := sizeG_left o h1 h2 (by rw [← hk]; exact hak)
            rw [← hk] at hs
            have HSum := Lib.hid (show (s + 1) + sizeG a k o = S by rw [HSS.out]; omega)
            obtain ⟨s1, hs1⟩ : ∃ s1, s1 = s + 1 := ⟨_, rfl⟩
            rw [← hs1] at HSum
            have hz : (s : Int) + 1 = (s1 : Int) := by omega
            have hsS : s1 ≤ 65 := by have := HSum.out; omega
            clear hsum hs hs1 hk
            go_wp2_with fail
            refine (HSplit.out _).mono ?_
            rintro e w2 ⟨rfl, rfl⟩
            clear HSplit
            go_wp2
            go_roundw
            case rel => exact ⟨a, k, s1, o, rfl, rfl, rfl, rfl, by rw [HSum.out, HSS.out], ha1, hak, by omega, rfl⟩
            case measure =>
              simp only [natOf, Int.toNat_natCast]
              omega
          · have hs := sizeG_right o h1 h2 (by rw [← hk]; exact hak)
            rw [← hk] at hs
            obtain ⟨a2, ha2⟩ : ∃ x : Nat, (a : Int) - (k : Int) = (x : Int) := ⟨a - k, by omega⟩
            obtain ⟨b2, hb2⟩ : ∃ x : Nat, (b : Int) - (k : Int) = (x : Int) := ⟨b - k, by omega⟩
            have ea : a - k = a2 := by omega
            have eb : b - k = b2 := by omega
            rw [ea, eb] at hs
            have HSum := Lib.hid (show (s + 1) + sizeG a2 b2 false = S by rw [HSS.out]; omega)
            obtain ⟨s1, hs1⟩ : ∃ s1, s1 = s + 1 := ⟨_, rfl⟩
            rw [← hs1] at HSum
            have hz : (s : Int) + 1 = (s1 : Int) := by omega
            have hsS : s1 ≤ 65 := by have := HSum.out; omega
            have HA := Lib.hid (show 1 ≤ a2 ∧ a2 ≤ b2 by omega)
            have HB := Lib.hid (show b2 < b by omega)
            have hb2b : b2 < 18446744073709551616 := by omega
            have ha2b : a2 < 18446744073709551616 := by omega
            clear hsum hs hs1 hk ea eb
            go_wp2_with fail
            refine (HSplit.out _).mono ?_
            rintro e w2 ⟨rfl, rfl⟩
            clear HSplit
            go_wp2
            go_roundw
            case rel => exact ⟨a2, b2, s1, false, rfl, rfl, rfl, rfl, by rw [HSum.out, HSS.out], HA.out.1, HA.out.2, hb2b, rfl⟩
            case measure =>
              have := HB.out
              simp only [natOf, Int.toNat_natCast]
              omega
        · have hb1 : a = b := by omega
          subst hb1
          have hz := sizeG_all a o
          cases o with
          | true =>
            have HE := Lib.hid (show s = S by rw [HSS.out]; simp at hz; omega)
            clear hsum hz
            go_wp2
            go_ret
            exact ⟨by rw [HE.out]; rfl, rfl⟩
          | false =>
            have HE := Lib.hid (show s + 1 = S by rw [HSS.out]; simp at hz; omega)
            obtain ⟨s1, hs1⟩ : ∃ s1, s1 = s + 1 := ⟨_, rfl⟩
            rw [← hs1] at HE
            have hz : (s : Int) + 1 = (s1 : Int) := by omega
            have hsS : s1 ≤ 66 := by have := HE.out; omega
            clear hsum hs1
            go_wp2
            go_ret
            exact ⟨by rw [HE.out]; rfl, rfl⟩
end Go.Proofs.YtdhfabjkpffhnaaDoor

/- Layer 16: the program's climb. -/
namespace Go.Proofs.YtdhfabjkpffhnaaDoor
set_option maxRecDepth 20000
open Go.RowKit ShaMath LeafMath PathMath GrowthMath Reg

theorem ShW.row {w W : World} {h : Hs} (X : ShW w h W) (g : Nat) (cs : Array Value) (hg : w.heap.size + 3 ≤ g) : ShW w h (W.setRow g cs) := by
  obtain ⟨h1, ⟨zs, h2, h3⟩, ⟨zt, h4, h5⟩, h6⟩ := X
  exact ⟨h1.rowOther _ (by omega), ⟨zs, h2.rowOther _ (by omega), h3⟩, ⟨zt, h4.rowOther _ (by omega), h5⟩, below_setRow h6 _ _ (by omega)⟩

set_option maxHeartbeats 2000000 in
set_option maxRecDepth 100000 in
theorem gclimb_in (n : Int) (hn : I64 n) : ∀ (N M : Nat) (h : Hs) (ps : List Hs) (old : Bool) (v : Value) (w : World), h.length = 32 → 1 ≤ M → M ≤ N → N < 18446744073709551616 → Hss w v ps → ps.length = sizeG M N old → Tabs w →
    Calls Tryd.prog 89 #[.int .i64 n, .int .u64 (M : Int), .int .u64 (N : Int), .agg (bs h), .bool old, v] w fun e w' => e = .returned (.tuple #[.agg (bs (showG n M N h ps old).1), .agg (bs (showG n M N h ps old).2)]) ∧ Below w.heap.size w w' := by
  intro N
  induction N using Nat.strongRecOn with
  | ind N ih =>
    intro M h ps old v w hh h1 hMN hN hv hl hk
    have HP := Lib.hid (ShW.new w h)
    have HSh := Lib.hid (size_hash (cs := bs h) (by rw [bs_size, hh]))
    have Hh := Lib.hid hh
    have hhs : (bs h).size = 32 := by rw [bs_size, hh]
    have HhS := Lib.hid hhs
    clear hhs
    by_cases he : M = N
    · subst he
      rw [showG_all]
      have heq : ((M : Int) == (M : Int)) = true := by simp
      cases old with
      | true =>
        rw [if_pos rfl]
        obtain ⟨a, c, rfl, _⟩ := hv.form
        clear ih hh hv hl hk hn hN hMN
        go_enter Tryd.func89, Tryd.ntmps89
        go_upto_region 1 with fail
        refine world_cut (fun W => ShW w h W) HP.out ?_
        clear HP
        intro W1 hW1
        have HW1 := Lib.hid hW1
        clear hW1
        go_upto_region 3 with fail
        have hG : ∀ W W' : World, ShW w h W → Below W.heap.size W W' → ShW w h W' := fun W W' h h' => h.keep h'
        refine region_rel_by 2 3 (fun _ _ => [(25, .is (.agg (bs h))), (26, .is (.agg (bs h)))]) [12, 13] (fun W => ShW w h W) (Put2 2 3 (w.heap.size + 1) (w.heap.size + 2) 24 (bs h) (bs h)) (by kernel_rfl) (by kernel_rfl) (by kernel_rfl) (by kernel_rfl) (by kernel_rfl) (by decide) (by decide) (HW1.out.keep (Below.refl _ _).drew) (put2_none _ _ _) ?_ ?_
        · refine ⟨?c0, ?c1, ?c2, ?c3, trivial⟩
          case c0 => exact plain_put (by kernel_rfl) (fun Wx => ask_load (guard_none rfl) _ (.tmp 9) (.pointer (some ⟨w.heap.size, 0, none⟩)) (.agg (bs h)) rfl rfl (by intro k hk; cases hk; rfl) (fun W hW => hW.1.1.loads 24 _ Tryd.underlying24 rfl HSh.out))
          case c1 => exact plain_put (by kernel_rfl) (fun Wx => ask_load (guard_none rfl) _ (.tmp 9) (.pointer (some ⟨w.heap.size, 0, none⟩)) (.agg (bs h)) rfl rfl (by intro k hk; cases hk; rfl) (fun W hW => hW.1.1.loads 24 _ Tryd.underlying24 rfl HSh.out))
          case c2 => exact .inr (put2_p rfl 24 (.tmp 12) (.tmp 25) rfl rfl rfl rfl (by kernel_rfl) (by decide) (by omega) (fun W hW => hW.cur1 HhS.out) HSh.out (bs_one _) (fun W hW => hW.row1 _ HhS.out))
          case c3 => exact .inr (put2_q rfl 24 (.tmp 13) (.tmp 26) rfl rfl rfl rfl (by kernel_rfl) (by decide) (by omega) (fun W hW => hW.cur2 HhS.out) HSh.out (bs_one _) (fun W hW => hW.row2 _ HhS.out))
        · intro L a' W hall hW hr hd' hs' hf'
          have HA := Lib.hid (hr.1 (hall 2 (by decide)))
          have HBk := Lib.hid (hr.2 (hall 3 (by decide)))
          have t12 : a'.tmps.getD 12 undef = .pointer (some ⟨w.heap.size + 1, 0, none⟩) := hf' 12 rfl
          have t13 : a'.tmps.getD 13 undef = .pointer (some ⟨w.heap.size + 2, 0, none⟩) := hf' 13 rfl
          obtain ⟨us', hus, ha'⟩ := act_open 85 a' hs' hd'
          rw [← hus] at t12 t13
          have el : ((List.range 85).map us').toArray = #[us' 0, us' 1, us' 2, us' 3, us' 4, us' 5, us' 6, us' 7, us' 8, us' 9, us' 10, us' 11, .pointer (some ⟨w.heap.size + 1, 0, none⟩), .pointer (some ⟨w.heap.size + 2, 0, none⟩), us' 14, us' 15, us' 16, us' 17, us' 18, us' 19, us' 20, us' 21, us' 22, us' 23, us' 24, us' 25, us' 26, us' 27, us' 28, us' 29, us' 30, us' 31, us' 32, us' 33, us' 34, us' 35, us' 36, us' 37, us' 38, us' 39, us' 40, us' 41, us' 42, us' 43, us' 44, us' 45, us' 46, us' 47, us' 48, us' 49, us' 50, us' 51, us' 52, us' 53, us' 54, us' 55, us' 56, us' 57, us' 58, us' 59, us' 60, us' 61, us' 62, us' 63, us' 64, us' 65, us' 66, us' 67, us' 68, us' 69, us' 70, us' 71, us' 72, us' 73, us' 74, us' 75, us' 76, us' 77, us' 78, us' 79, us' 80, us' 81, us' 82, us' 83, us' 84] := by
            show #[us' 0, us' 1, us' 2, us' 3, us' 4, us' 5, us' 6, us' 7, us' 8, us' 9, us' 10, us' 11, us' 12, us' 13, us' 14, us' 15, us' 16, us' 17, us' 18, us' 19, us' 20, us' 21, us' 22, us' 23, us' 24, us' 25, us' 26, us' 27, us' 28, us' 29, us' 30, us' 31, us' 32, us' 33, us' 34, us' 35, us' 36, us' 37, us' 38, us' 39, us' 40, us' 41, us' 42, us' 43, us' 44, us' 45, us' 46, us' 47, us' 48, us' 49, us' 50, us' 51, us' 52, us' 53, us' 54, us' 55, us' 56, us' 57, us' 58, us' 59, us' 60, us' 61, us' 62, us' 63, us' 64, us' 65, us' 66, us' 67, us' 68, us' 69, us' 70, us' 71, us' 72, us' 73, us' 74, us' 75, us' 76, us' 77, us' 78, us' 79, us' 80, us' 81, us' 82, us' 83, us' 84] = _
            rw [t12, t13]
          rw [el] at ha'
          subst ha'
          clear hus t12 t13 el hf' hs' hd'
          go_wp2
          exact bodyPost_ret (v := .tuple #[.agg (bs h), .agg (bs h)]) (ret_two rfl _ _ (w.heap.size + 1) (w.heap.size + 2) (bs h) (bs h) (by rw [bs_size, Hh.out]) (by rw [bs_size, Hh.out]) rfl rfl HA.out HBk.out) rfl ⟨rfl, hW.2.2.2⟩
      | false =>
        rw [if_neg (by decide)]
        rw [sizeG_all, if_neg (by decide)] at hl
        obtain ⟨y, rfl⟩ : ∃ y, ps = [y] := List.length_eq_one_iff.1 hl
        simp only [List.headD_cons]
        have hy : [y][0]? = some y := rfl
        have hy32 := hv.all.get hy
        obtain ⟨pad, pc, rfl⟩ : ∃ pad pc, v = .slice (some pad) 1 pc := by
          obtain ⟨a, c, e, _⟩ := hv.form
          subst e
          obtain ⟨ad, rfl, _⟩ := hv.load hy
          exact ⟨ad, c, rfl⟩
        have HLd := Lib.hid (fun (W : World) (hW : Below w.heap.size w W) => load_hash W (pad.add (0 * 32)) y hy32 fun j u hj => by
          obtain ⟨ad2, e, h⟩ := (hv.below (Nat.le_refl _) hW).load hy
          cases e
          exact h j u hj)
        have HIx := Lib.hid (fun W => show (Instr.indexAt 30 (.slice (some pad) 1 pc) (.int .i64 0)).run Tryd.prog W = .ok (.pointer (some (pad.add (0 * 32)))) W from hss_index W pad 1 pc 0 (by decide))
        have HSy := Lib.hid (size_hash (cs := bs y) (by rw [bs_size, hy32]))
        have Hy := Lib.hid hy32
        have HyS := Lib.hid (show (bs y).size = 32 by rw [bs_size, hy32])
        clear ih hh hv hl hk hn hN hMN hy hy32
        go_enter Tryd.func89, Tryd.ntmps89
        go_upto_region 1 with fail
        refine world_cut (fun W => ShW w h W) HP.out ?_
        clear HP
        intro W1 hW1
        have HW1 := Lib.hid hW1
        clear hW1
        go_upto_region 4 with fail
        have hG : ∀ W W' : World, ShW w h W → Below W.heap.size W W' → ShW w h W' := fun W W' h h' => h.keep h'
        refine region_rel_by 6 7 (fun _ _ => [(27, .is (.slice (some pad) 1 pc)), (28, .is (.pointer (some (pad.add (0 * 32))))), (29, .is (.agg (bs y))), (30, .is (.slice (some pad) 1 pc)), (31, .is (.pointer (some (pad.add (0 * 32))))), (32, .is (.agg (bs y)))]) [12, 13] (fun W => ShW w h W) (Put2 6 7 (w.heap.size + 1) (w.heap.size + 2) 24 (bs y) (bs y)) (by kernel_rfl) (by kernel_rfl) (by kernel_rfl) (by kernel_rfl) (by kernel_rfl) (by decide) (by decide) (HW1.out.keep (Below.refl _ _).drew) (put2_none _ _ _) ?_ ?_
        · refine ⟨?c0, ?c1, ?c2, ?c3, ?c4, ?c5, ?c6, ?c7, trivial⟩
          case c0 => exact plain_put (by kernel_rfl) (fun Wx => ask_copy (guard_none rfl) (.tmp 5) (.inl rfl) (by intro k hk; cases hk; rfl))
          case c1 => exact plain_put (by kernel_rfl) (fun Wx => ask_idx (guard_none rfl) _ (.tmp 27) (.const (.int .i64 0)) (.slice (some pad) 1 pc) (.int .i64 0) (.pointer (some (pad.add (0 * 32)))) rfl rfl rfl (by intro k hk; cases hk; rfl) HIx.out)
          case c2 => exact plain_put (by kernel_rfl) (fun Wx => ask_load (guard_none rfl) _ (.tmp 28) (.pointer (some (pad.add (0 * 32)))) (.agg (bs y)) rfl rfl (by intro k hk; cases hk; rfl) (fun W hW => HLd.out W hW.1.2.2.2))
          case c3 => exact plain_put (by kernel_rfl) (fun Wx => ask_copy (guard_none rfl) (.tmp 5) (.inl rfl) (by intro k hk; cases hk; rfl))
          case c4 => exact plain_put (by kernel_rfl) (fun Wx => ask_idx (guard_none rfl) _ (.tmp 30) (.const (.int .i64 0)) (.slice (some pad) 1 pc) (.int .i64 0) (.pointer (some (pad.add (0 * 32)))) rfl rfl rfl (by intro k hk; cases hk; rfl) HIx.out)
          case c5 => exact plain_put (by kernel_rfl) (fun Wx => ask_load (guard_none rfl) _ (.tmp 31) (.pointer (some (pad.add (0 * 32)))) (.agg (bs y)) rfl rfl (by intro k hk; cases hk; rfl) (fun W hW => HLd.out W hW.1.2.2.2))
          case c6 => exact .inr (put2_p rfl 24 (.tmp 12) (.tmp 29) rfl rfl rfl rfl (by kernel_rfl) (by decide) (by omega) (fun W hW => hW.cur1 HyS.out) HSy.out (bs_one _) (fun W hW => hW.row1 _ HyS.out))
          case c7 => exact .inr (put2_q rfl 24 (.tmp 13) (.tmp 32) rfl rfl rfl rfl (by kernel_rfl) (by decide) (by omega) (fun W hW => hW.cur2 HyS.out) HSy.out (bs_one _) (fun W hW => hW.row2 _ HyS.out))
        · intro L a' W hall hW hr hd' hs' hf'
          have HA := Lib.hid (hr.1 (hall 6 (by decide)))
          have HBk := Lib.hid (hr.2 (hall 7 (by decide)))
          have t12 : a'.tmps.getD 12 undef = .pointer (some ⟨w.heap.size + 1, 0, none⟩) := hf' 12 rfl
          have t13 : a'.tmps.getD 13 undef = .pointer (some ⟨w.heap.size + 2, 0, none⟩) := hf' 13 rfl
          obtain ⟨us', hus, ha'⟩ := act_open 85 a' hs' hd'
          rw [← hus] at t12 t13
          have el : ((List.range 85).map us').toArray = #[us' 0, us' 1, us' 2, us' 3, us' 4, us' 5, us' 6, us' 7, us' 8, us' 9, us' 10, us' 11, .pointer (some ⟨w.heap.size + 1, 0, none⟩), .pointer (some ⟨w.heap.size + 2, 0, none⟩), us' 14, us' 15, us' 16, us' 17, us' 18, us' 19, us' 20, us' 21, us' 22, us' 23, us' 24, us' 25, us' 26, us' 27, us' 28, us' 29, us' 30, us' 31, us' 32, us' 33, us' 34, us' 35, us' 36, us' 37, us' 38, us' 39, us' 40, us' 41, us' 42, us' 43, us' 44, us' 45, us' 46, us' 47, us' 48, us' 49, us' 50, us' 51, us' 52, us' 53, us' 54, us' 55, us' 56, us' 57, us' 58, us' 59, us' 60, us' 61, us' 62, us' 63, us' 64, us' 65, us' 66, us' 67, us' 68, us' 69, us' 70, us' 71, us' 72, us' 73, us' 74, us' 75, us' 76, us' 77, us' 78, us' 79, us' 80, us' 81, us' 82, us' 83, us' 84] := by
            show #[us' 0, us' 1, us' 2, us' 3, us' 4, us' 5, us' 6, us' 7, us' 8, us' 9, us' 10, us' 11, us' 12, us' 13, us' 14, us' 15, us' 16, us' 17, us' 18, us' 19, us' 20, us' 21, us' 22, us' 23, us' 24, us' 25, us' 26, us' 27, us' 28, us' 29, us' 30, us' 31, us' 32, us' 33, us' 34, us' 35, us' 36, us' 37, us' 38, us' 39, us' 40, us' 41, us' 42, us' 43, us' 44, us' 45, us' 46, us' 47, us' 48, us' 49, us' 50, us' 51, us' 52, us' 53, us' 54, us' 55, us' 56, us' 57, us' 58, us' 59, us' 60, us' 61, us' 62, us' 63, us' 64, us' 65, us' 66, us' 67, us' 68, us' 69, us' 70, us' 71, us' 72, us' 73, us' 74, us' 75, us' 76, us' 77, us' 78, us' 79, us' 80, us' 81, us' 82, us' 83, us' 84] = _
            rw [t12, t13]
          rw [el] at ha'
          subst ha'
          clear hus t12 t13 el hf' hs' hd'
          go_wp2
          exact bodyPost_ret (v := .tuple #[.agg (bs y), .agg (bs y)]) (ret_two rfl _ _ (w.heap.size + 1) (w.heap.size + 2) (bs y) (bs y) (by rw [bs_size, Hy.out]) (by rw [bs_size, Hy.out]) rfl rfl HA.out HBk.out) rfl ⟨rfl, hW.2.2.2⟩
    · have hlt0 : M < N := by omega
      have h2 : 2 ≤ N := by omega
      have hlt := splitN_lt h2
      have hp0 := splitN_pos N
      obtain ⟨k, hk2⟩ : ∃ k, k = splitN N := ⟨_, rfl⟩
      have HSplit := Lib.hid (fun W => splitAt_any N W (by omega) hN)
      rw [← hk2] at HSplit hlt hp0
      have hne : ¬ (M : Int) = (N : Int) := by omega
      obtain ⟨p, hp⟩ : ∃ p, p = ps.length := ⟨_, rfl⟩
      have hpos : 0 < p := by
        by_cases hik : M ≤ splitN N
        · rw [hp, hl, sizeG_left old hlt0 h2 hik]; omega
        · rw [hp, hl, sizeG_right old hlt0 h2 hik]; omega
      have hp64 : p ≤ 65 := by rw [hp, hl]; exact sizeG_65 M N old hMN hN
      obtain ⟨z, hz⟩ : ∃ z : Nat, (p : Int) - 1 = (z : Int) := ⟨p - 1, by omega⟩
      have hzp : z + 1 = p := by omega
      obtain ⟨y, hy⟩ : ∃ y, ps[z]? = some y := ⟨ps[z]'(by omega), List.getElem?_eq_getElem _⟩
      have hlast : ps.getLastD [] = y := by
        obtain ⟨q, x, rfl⟩ : ∃ q x, ps = q ++ [x] := by
          have hne : ps ≠ [] := fun e => by rw [e] at hp; simp at hp; omega
          exact ⟨ps.dropLast, ps.getLast hne, (List.dropLast_concat_getLast hne).symm⟩
        have hzq : z = q.length := by simp at hp; omega
        rw [hzq] at hy
        simp at hy
        simp [hy]
      have hdl : ps.dropLast = ps.take z := by rw [List.dropLast_eq_take, ← hp]; congr 1; omega
      obtain ⟨pad, hpad, hcy⟩ : ∃ pad pc, v = .slice (some pad) p pc ∧ p ≤ pc := by
        obtain ⟨a, c, e, hc⟩ := hv.form
        rw [← hp] at e hc
        subst e
        obtain ⟨ad, rfl, _⟩ := hv.load hy
        exact ⟨ad, c, rfl, hc⟩
      obtain ⟨rfl, hpc⟩ := hcy
      obtain ⟨pc, hpcc⟩ : ∃ c, c = hpad := ⟨_, rfl⟩
      rw [← hpcc] at hv hpc ⊢
      clear hpcc
      have hy32 := hv.all.get hy
      have hd32 : ∀ x ∈ ps.dropLast, x.length = 32 := fun x hx => hv.all x (List.dropLast_subset _ hx)
      have hv2 : Hss w (.slice (some pad) z pc) ps.dropLast := by
        have := hv.sub 0 z (by omega) (by omega)
        rw [sliced_zero3] at this
        rw [hdl]
        simpa using this
      have HLd := Lib.hid (fun (W : World) (hW : Below w.heap.size w W) => load_hash W (pad.add (z * 32)) y hy32 fun j u hj => by
        obtain ⟨ad2, e, h⟩ := (hv.below (Nat.le_refl _) hW).load hy
        cases e
        exact h j u hj)
      have HIx := Lib.hid (fun W => hss_index W pad p pc z (by omega))
      have HSl := Lib.hid (fun (W : World) => show (Instr.sliceAt 30 (.slice (some pad) p pc) none (some (.int .i64 (z : Int))) none).run Tryd.prog W = .ok (.slice (some pad) z pc) W by
        have h := slice_hs_to (some pad) p pc z (by omega) W
        rwa [sliced_zero3] at h)
      have HSy := Lib.hid (size_hash (cs := bs y) (by rw [bs_size, hy32]))
      have Hy := Lib.hid hy32
      have HZP := Lib.hid hz
      have HyS := Lib.hid (show (bs y).size = 32 by rw [bs_size, hy32])
      have HzS := Lib.hid (show (bs (List.replicate 32 0)).size = 32 from rfl)
      by_cases hik : M ≤ k
      · have hs := sizeG_left old hlt0 h2 (by rw [← hk2]; exact hik)
        rw [← hk2] at hs
        obtain ⟨U, hU⟩ : ∃ U, U = showG n M k h ps.dropLast old := ⟨_, rfl⟩
        have hU32 : U.1.length = 32 ∧ U.2.length = 32 := by
          rw [hU]; exact showG_length n k M h ps.dropLast old hh hd32 hik (by rw [List.length_dropLast, hl, hs]; rfl)
        have HShow := Lib.hid (fun (W : World) (hW : Below w.heap.size w W) => ih k hlt M h ps.dropLast old (.slice (some pad) z pc) W hh h1 hik (by omega) (hv2.below (Nat.le_refl _) hW) (by rw [List.length_dropLast, hl, hs]; rfl) (hk.below (Nat.le_refl _) hW))
        have hres : showG n M N h ps old = (U.1, nodeH n U.2 y) := by rw [showG_left n h ps old hlt0 h2 (by rw [← hk2]; exact hik), hU, hlast, hk2]
        rw [← hU] at HShow
        rw [hres]
        obtain ⟨o, ho⟩ : ∃ o, o = U.1 := ⟨_, rfl⟩
        obtain ⟨r, hr⟩ : ∃ r, r = U.2 := ⟨_, rfl⟩
        rw [← ho, ← hr] at hU32 HShow ⊢
        obtain ⟨ho32, hr32⟩ := hU32
        obtain ⟨R, hR, hR32⟩ : ∃ R, R = nodeH n r y ∧ R.length = 32 := ⟨_, rfl, nodeH_length _ _ _⟩
        have HNode := Lib.hid (fun (W : World) (hW : Below w.heap.size w W) => node_any n r y W hn hr32 hy32 (hk.below (Nat.le_refl _) hW))
        rw [← hR] at HNode ⊢
        have hle : (M : Int) ≤ (k : Int) := by omega
        have HSo := Lib.hid (size_hash (cs := bs o) (by rw [bs_size, ho32]))
        have HSr := Lib.hid (size_hash (cs := bs r) (by rw [bs_size, hr32]))
        have HSR := Lib.hid (size_hash (cs := bs R) (by rw [bs_size, hR32]))
        have Ho := Lib.hid ho32
        have HoS := Lib.hid (show (bs o).size = 32 by rw [bs_size, ho32])
        have HrS := Lib.hid (show (bs r).size = 32 by rw [bs_size, hr32])
        have HR := Lib.hid hR32
        have HRS := Lib.hid (show (bs R).size = 32 by rw [bs_size, hR32])
        clear ih hh hv hl hk hs hU ho32 hr32 hR hR32 hres ho hr hlast hdl hy hy32 hv2 hp hk2 hd32 hn
        go_enter Tryd.func89, Tryd.ntmps89
        go_upto_region 1 with fail
        refine world_cut (fun W => ShW w h W) HP.out ?_
        clear HP
        intro W1 hW1
        have HW1 := Lib.hid hW1
        clear hW1
        go_upto_region 5 with fail
        have hG : ∀ W W' : World, ShW w h W → Below W.heap.size W W' → ShW w h W' := fun W W' h h' => h.keep h'
        refine region_fill_by 13 _ (fun b => [(15, (if b then varF (w.heap.size + 3) 24 (bs y) else varF (w.heap.size + 3) 24 (bs (List.replicate 32 0)))), (33, .is (.slice (some pad) p pc)), (34, .is (.slice (some pad) p pc)), (35, .is (.int .i64 (p : Int))), (36, .is (.int .i64 (z : Int))), (37, .is (.slice (some pad) z pc)), (38, .is (.slice (some pad) p pc)), (39, .is (.slice (some pad) p pc)), (40, .is (.int .i64 (p : Int))), (41, .is (.int .i64 (z : Int))), (42, .is (.pointer (some (pad.add (z * 32))))), (43, .is (.agg (bs y))), (14, .is (.slice (some pad) z pc))]) [0, 1, 2, 4, 9, 12, 13, 14, 15] (fun W => ShW w h W) (by kernel_rfl) (by kernel_rfl) (by kernel_rfl) (by kernel_rfl) (by kernel_rfl) (hG _ _ HW1.out (Below.refl _ _).drew) rfl rfl ?_ ?_ ?_
        · refine ⟨?c0, ?c1, ?c2, ?c3, ?c4, ?c5, ?c6, ?c7, ?c8, ?c9, ?c10, ?c11, ?c12, ?c13, trivial⟩
          case c0 => exact .inr (.inl fun b => ask_copy (guard_none rfl) (.tmp 5) (.inl rfl) (by intro k hk; cases hk; rfl))
          case c1 => exact .inr (.inl fun b => ask_copy (guard_none rfl) (.tmp 5) (.inl rfl) (by intro k hk; cases hk; rfl))
          case c2 => exact .inr (.inl fun b => ask_len (guard_none rfl) (.tmp 34) _ (some pad) p pc rfl (by kernel_rfl) rfl (by intro k hk; cases hk; rfl))
          case c3 => exact .inr (.inl fun b => ask_bin (guard_none rfl) .sub _ _ (.tmp 35) (.const (.int .i64 1)) (.int .i64 (p : Int)) (.int .i64 1) (.int .i64 (z : Int)) rfl rfl rfl (by intro k hk; cases hk; rfl) (fun W => sub_i64 _ _ _ _ _ _ HZP.out (by omega) W))
          case c4 => exact .inr (.inl fun b => ask_slice (guard_none rfl) _ (.tmp 33) none (some (.tmp 36)) none (.slice (some pad) p pc) (.slice (some pad) z pc) none (some (.int .i64 (z : Int))) none rfl rfl rfl rfl rfl (by intro k hk; cases hk; rfl) (HSl.out))
          case c5 => exact .inr (.inl fun b => ask_copy (guard_none rfl) (.tmp 5) (.inl rfl) (by intro k hk; cases hk; rfl))
          case c6 => exact .inr (.inl fun b => ask_copy (guard_none rfl) (.tmp 5) (.inl rfl) (by intro k hk; cases hk; rfl))
          case c7 => exact .inr (.inl fun b => ask_len (guard_none rfl) (.tmp 39) _ (some pad) p pc rfl (by kernel_rfl) rfl (by intro k hk; cases hk; rfl))
          case c8 => exact .inr (.inl fun b => ask_bin (guard_none rfl) .sub _ _ (.tmp 40) (.const (.int .i64 1)) (.int .i64 (p : Int)) (.int .i64 1) (.int .i64 (z : Int)) rfl rfl rfl (by intro k hk; cases hk; rfl) (fun W => sub_i64 _ _ _ _ _ _ HZP.out (by omega) W))
          case c9 => exact .inr (.inl fun b => ask_idx (guard_none rfl) _ (.tmp 38) (.tmp 41) (.slice (some pad) p pc) (.int .i64 (z : Int)) (.pointer (some (pad.add (z * 32)))) rfl rfl rfl (by intro k hk; cases hk; rfl) HIx.out)
          case c10 => exact .inr (.inl fun b => ask_load (guard_none rfl) _ (.tmp 42) (.pointer (some (pad.add (z * 32)))) (.agg (bs y)) rfl rfl (by intro k hk; cases hk; rfl) (fun W hW => HLd.out W hW.2.2.2))
          case c11 => exact .inr (.inr ⟨by kernel_rfl, ask_alloc hG (guard_none rfl) _ (.agg (bs (List.replicate 32 0))) (varF (w.heap.size + 3) 24 (bs (List.replicate 32 0))) rfl (fun W => by kernel_rfl) (by intro k hk; cases hk; rfl) (fun W hW => ⟨_, rfl, hW.lt, Blk.new W _ _⟩)⟩)
          case c12 => exact .inr (.inl fun b => ask_copy (guard_none rfl) (.tmp 37) (.inr rfl) (by intro k hk; cases hk; rfl))
          case c13 => exact .inl rfl
        · intro x W hW hk
          obtain ⟨g, e1, e2, e3⟩ : ∃ g, x 15 = .pointer (some ⟨g, 0, none⟩) ∧ w.heap.size + 3 ≤ g ∧ Blk W g 24 (bs (List.replicate 32 0)) := hk 15 rfl
          have e4 : x 43 = .agg (bs y) := hk 43 rfl
          refine ⟨guard_ok (guard_none rfl) hk, gives_store 24 (.tmp 15) (.tmp 43) rfl (.pointer (some ⟨g, 0, none⟩)) (.agg (bs y)) e1 e4 (e3.stores 24 _ HSy.out (by rw [HyS.out]; rfl) (bs_one _)) ⟨hW.row g _ e2, fun k _ hu => ?_⟩⟩
          by_cases h12 : k = 15
          · subst h12
            exact ⟨g, e1, e2, e3.row _⟩
          · simp only [factsOf_ne h12] at hu ⊢
            refine facts_keep (fun q hq u hu => ?_) k _ hu
            simp only [List.mem_cons, List.not_mem_nil, or_false] at hq
            rcases hq with rfl | rfl | rfl | rfl | rfl | rfl | rfl | rfl | rfl | rfl | rfl | rfl
            all_goals exact hu
        · intro a' W3 hW hd' hs' hf'
          have t15 : ∃ g, a'.tmps.getD 15 undef = .pointer (some ⟨g, 0, none⟩) ∧ w.heap.size + 3 ≤ g ∧ Blk W3 g 24 (bs y) := hf' 15 rfl
          obtain ⟨g, e15, hg15, hb15⟩ := t15
          have t0 : a'.tmps.getD 0 undef = .int .i64 n := hf' 0 rfl
          have t1 : a'.tmps.getD 1 undef = .int .u64 (M : Int) := hf' 1 rfl
          have t2 : a'.tmps.getD 2 undef = .int .u64 (N : Int) := hf' 2 rfl
          have t4 : a'.tmps.getD 4 undef = .bool old := hf' 4 rfl
          have t9 : a'.tmps.getD 9 undef = .pointer (some ⟨w.heap.size, 0, none⟩) := hf' 9 rfl
          have t12 : a'.tmps.getD 12 undef = .pointer (some ⟨w.heap.size + 1, 0, none⟩) := hf' 12 rfl
          have t13 : a'.tmps.getD 13 undef = .pointer (some ⟨w.heap.size + 2, 0, none⟩) := hf' 13 rfl
          have t14 : a'.tmps.getD 14 undef = .slice (some pad) z pc := hf' 14 rfl
          have t15 := e15
          obtain ⟨us', hus, ha'⟩ := act_open 85 a' hs' hd'
          rw [← hus] at t0 t1 t2 t4 t9 t12 t13 t14 t15
          have el : ((List.range 85).map us').toArray = #[.int .i64 n, .int .u64 (M : Int), .int .u64 (N : Int), us' 3, .bool old, us' 5, us' 6, us' 7, us' 8, .pointer (some ⟨w.heap.size, 0, none⟩), us' 10, us' 11, .pointer (some ⟨w.heap.size + 1, 0, none⟩), .pointer (some ⟨w.heap.size + 2, 0, none⟩), .slice (some pad) z pc, .pointer (some ⟨g, 0, none⟩), us' 16, us' 17, us' 18, us' 19, us' 20, us' 21, us' 22, us' 23, us' 24, us' 25, us' 26, us' 27, us' 28, us' 29, us' 30, us' 31, us' 32, us' 33, us' 34, us' 35, us' 36, us' 37, us' 38, us' 39, us' 40, us' 41, us' 42, us' 43, us' 44, us' 45, us' 46, us' 47, us' 48, us' 49, us' 50, us' 51, us' 52, us' 53, us' 54, us' 55, us' 56, us' 57, us' 58, us' 59, us' 60, us' 61, us' 62, us' 63, us' 64, us' 65, us' 66, us' 67, us' 68, us' 69, us' 70, us' 71, us' 72, us' 73, us' 74, us' 75, us' 76, us' 77, us' 78, us' 79, us' 80, us' 81, us' 82, us' 83, us' 84] := by
            show #[us' 0, us' 1, us' 2, us' 3, us' 4, us' 5, us' 6, us' 7, us' 8, us' 9, us' 10, us' 11, us' 12, us' 13, us' 14, us' 15, us' 16, us' 17, us' 18, us' 19, us' 20, us' 21, us' 22, us' 23, us' 24, us' 25, us' 26, us' 27, us' 28, us' 29, us' 30, us' 31, us' 32, us' 33, us' 34, us' 35, us' 36, us' 37, us' 38, us' 39, us' 40, us' 41, us' 42, us' 43, us' 44, us' 45, us' 46, us' 47, us' 48, us' 49, us' 50, us' 51, us' 52, us' 53, us' 54, us' 55, us' 56, us' 57, us' 58, us' 59, us' 60, us' 61, us' 62, us' 63, us' 64, us' 65, us' 66, us' 67, us' 68, us' 69, us' 70, us' 71, us' 72, us' 73, us' 74, us' 75, us' 76, us' 77, us' 78, us' 79, us' 80, us' 81, us' 82, us' 83, us' 84] = _
            rw [t0, t1, t2, t4, t9, t12, t13, t14, t15]
          rw [el] at ha'
          subst ha'
          clear e15 hus t0 t1 t2 t4 t9 t12 t13 t14 t15 el hf' hs' hd'
          have HW3 := Lib.hid (And.intro hW hb15)
          have hg2 : w.heap.size + 2 < g := by omega
          clear hW hb15 hG hg15 HW1 HIx HSl HLd HZP
          go_wp2_with fail
          refine (HSplit.out _).mono ?_
          rintro e W4 ⟨rfl, rfl⟩
          clear HSplit
          go_wp2_with (refine wpList_load_row rfl 24 (.tmp 9) rfl w.heap.size rfl 24 (bs h) (0, 0) _ HW3.out.1.1 Tryd.underlying24 rfl HSh.out ?_)
          refine (HShow.out _ HW3.out.1.2.2.2).mono ?_
          rintro e W5 ⟨rfl, hb5⟩
          have hW5 : ShW w h W5 ∧ Blk W5 g 24 (bs y) := ⟨HW3.out.1.keep hb5, HW3.out.2.keep hb5⟩
          have HW5 := Lib.hid hW5
          have hg5 : w.heap.size + 2 < W5.heap.size := hW5.1.lt
          have hgl : g < W5.heap.size := hW5.2.lt
          clear hW5 hb5 HShow HW3
          go_upto_region 9 with (first
            | (refine wpList_store_row rfl 24 (.tmp 17) (.tmp 57) rfl W5.heap.size (bs o) rfl rfl 24 _ ((Blk.new W5 _ _).alloc _) HSo.out (by rw [HoS.out]; rfl) (bs_one _) ?_)
            | (refine wpList_store_row rfl 24 (.tmp 18) (.tmp 58) rfl (W5.heap.size + 1) (bs r) rfl rfl 24 _ (Blk.rowOther (Blk.newAt _ _ _ _ _ (by simp) rfl) _ (by omega)) HSr.out (by rw [HrS.out]; rfl) (bs_one _) ?_))
          have hB6 := below_setRow (below_setRow (((Below.refl W5.heap.size W5).alloc (Nat.le_refl _) (.cells (bs (List.replicate 32 0)) 24)).alloc (by simp) (.cells (bs (List.replicate 32 0)) 24)) W5.heap.size (bs o) (Nat.le_refl _)) (W5.heap.size + 1) (bs r) (by omega)
          refine world_cut (fun W => ShZ w h y g o r W5.heap.size (W5.heap.size + 1) W) ⟨HW5.out.1.keep hB6, HW5.out.2.keep hB6, (Blk.row ((Blk.new W5 _ _).alloc _) (bs o)).rowOther _ (by omega), Blk.row (Blk.rowOther (Blk.newAt _ _ _ _ _ (by simp) rfl) _ (by omega)) (bs r)⟩ ?_
          clear hB6
          rintro W6 hZ
          obtain ⟨gx, hgx⟩ : ∃ g, g = W5.heap.size := ⟨_, rfl⟩
          obtain ⟨gy, hgy⟩ : ∃ g, g = W5.heap.size + 1 := ⟨_, rfl⟩
          have hx3 : w.heap.size + 2 < gx := by omega
          have hy3 : w.heap.size + 2 < gy := by omega
          rw [← hgy, ← hgx] at hZ
          rw [← hgy, ← hgx]
          have HZ := Lib.hid hZ
          clear hZ hgx hgy hg5 hgl HW5
          have hG : ∀ W W' : World, ShZ w h y g o r gx gy W → Below W.heap.size W W' → ShZ w h y g o r gx gy W' := fun W W' h h' => h.keep h'
          refine region_rel_by 5 6 (fun _ _ => [(59, .is (.agg (bs o))), (60, .is (.int .i64 n)), (61, .is (.agg (bs r))), (62, .is (.agg (bs y))), (63, .is (.agg (bs R)))]) [12, 13] (fun W => ShZ w h y g o r gx gy W) (Put2 5 6 (w.heap.size + 1) (w.heap.size + 2) 24 (bs o) (bs R)) (by kernel_rfl) (by kernel_rfl) (by kernel_rfl) (by kernel_rfl) (by kernel_rfl) (by decide) (by decide) (HZ.out.keep (Below.refl _ _).drew) (put2_none _ _ _) ?_ ?_
          · refine ⟨?c0, ?c1, ?c2, ?c3, ?c4, ?c5, ?c6, trivial⟩
            case c0 => exact plain_put (by kernel_rfl) (fun Wx => ask_load (guard_none rfl) _ (.tmp 17) (.pointer (some ⟨gx, 0, none⟩)) (.agg (bs o)) rfl rfl (by intro k hk; cases hk; rfl) (fun W hW => (hW.1.2.2.1).loads 24 _ Tryd.underlying24 rfl HSo.out))
            case c1 => exact plain_put (by kernel_rfl) (fun Wx => ask_copy (guard_none rfl) (.tmp 0) (.inl rfl) (by intro k hk; cases hk; rfl))
            case c2 => exact plain_put (by kernel_rfl) (fun Wx => ask_load (guard_none rfl) _ (.tmp 18) (.pointer (some ⟨gy, 0, none⟩)) (.agg (bs r)) rfl rfl (by intro k hk; cases hk; rfl) (fun W hW => (hW.1.2.2.2).loads 24 _ Tryd.underlying24 rfl HSr.out))
            case c3 => exact plain_put (by kernel_rfl) (fun Wx => ask_load (guard_none rfl) _ (.tmp 15) (.pointer (some ⟨g, 0, none⟩)) (.agg (bs y)) rfl rfl (by intro k hk; cases hk; rfl) (fun W hW => (hW.1.2.1).loads 24 _ Tryd.underlying24 rfl HSy.out))
            case c4 => exact plain_put (by kernel_rfl) (fun Wx => ask_call (grow_both hG Wx) (guard_none rfl) _ _ _ #[.int .i64 n, .agg (bs r), .agg (bs y)] (.is (.agg (bs R))) rfl (by kernel_rfl) rfl rfl (by intro k hk; cases hk; rfl) (fun W hW => (HNode.out W hW.1.1.2.2.2).mono fun e w' h => ⟨_, h.1, rfl, h.2⟩))
            case c5 => exact .inr (put2_p rfl 24 (.tmp 12) (.tmp 59) rfl rfl rfl rfl (by kernel_rfl) (by decide) (by omega) (fun W hW => hW.1.cur1 HoS.out) HSo.out (bs_one _) (fun W hW => hW.row1 _ HoS.out hg2 hx3 hy3))
            case c6 => exact .inr (put2_q rfl 24 (.tmp 13) (.tmp 63) rfl rfl rfl rfl (by kernel_rfl) (by decide) (by omega) (fun W hW => hW.1.cur2 HRS.out) HSR.out (bs_one _) (fun W hW => hW.row2 _ HRS.out hg2 hx3 hy3))
          · intro L a' W hall hW hr hd' hs' hf'
            have HA := Lib.hid (hr.1 (hall 5 (by decide)))
            have HBk := Lib.hid (hr.2 (hall 6 (by decide)))
            have t12 : a'.tmps.getD 12 undef = .pointer (some ⟨w.heap.size + 1, 0, none⟩) := hf' 12 rfl
            have t13 : a'.tmps.getD 13 undef = .pointer (some ⟨w.heap.size + 2, 0, none⟩) := hf' 13 rfl
            obtain ⟨us', hus, ha'⟩ := act_open 85 a' hs' hd'
            rw [← hus] at t12 t13
            have el : ((List.range 85).map us').toArray = #[us' 0, us' 1, us' 2, us' 3, us' 4, us' 5, us' 6, us' 7, us' 8, us' 9, us' 10, us' 11, .pointer (some ⟨w.heap.size + 1, 0, none⟩), .pointer (some ⟨w.heap.size + 2, 0, none⟩), us' 14, us' 15, us' 16, us' 17, us' 18, us' 19, us' 20, us' 21, us' 22, us' 23, us' 24, us' 25, us' 26, us' 27, us' 28, us' 29, us' 30, us' 31, us' 32, us' 33, us' 34, us' 35, us' 36, us' 37, us' 38, us' 39, us' 40, us' 41, us' 42, us' 43, us' 44, us' 45, us' 46, us' 47, us' 48, us' 49, us' 50, us' 51, us' 52, us' 53, us' 54, us' 55, us' 56, us' 57, us' 58, us' 59, us' 60, us' 61, us' 62, us' 63, us' 64, us' 65, us' 66, us' 67, us' 68, us' 69, us' 70, us' 71, us' 72, us' 73, us' 74, us' 75, us' 76, us' 77, us' 78, us' 79, us' 80, us' 81, us' 82, us' 83, us' 84] := by
              show #[us' 0, us' 1, us' 2, us' 3, us' 4, us' 5, us' 6, us' 7, us' 8, us' 9, us' 10, us' 11, us' 12, us' 13, us' 14, us' 15, us' 16, us' 17, us' 18, us' 19, us' 20, us' 21, us' 22, us' 23, us' 24, us' 25, us' 26, us' 27, us' 28, us' 29, us' 30, us' 31, us' 32, us' 33, us' 34, us' 35, us' 36, us' 37, us' 38, us' 39, us' 40, us' 41, us' 42, us' 43, us' 44, us' 45, us' 46, us' 47, us' 48, us' 49, us' 50, us' 51, us' 52, us' 53, us' 54, us' 55, us' 56, us' 57, us' 58, us' 59, us' 60, us' 61, us' 62, us' 63, us' 64, us' 65, us' 66, us' 67, us' 68, us' 69, us' 70, us' 71, us' 72, us' 73, us' 74, us' 75, us' 76, us' 77, us' 78, us' 79, us' 80, us' 81, us' 82, us' 83, us' 84] = _
              rw [t12, t13]
            rw [el] at ha'
            subst ha'
            clear hus t12 t13 el hf' hs' hd'
            go_wp2
            exact bodyPost_ret (v := .tuple #[.agg (bs o), .agg (bs R)]) (ret_two rfl _ _ (w.heap.size + 1) (w.heap.size + 2) (bs o) (bs R) (by rw [bs_size, Ho.out]) (by rw [bs_size, HR.out]) rfl rfl HA.out HBk.out) rfl ⟨rfl, hW.1.2.2.2⟩
      · have hs := sizeG_right old hlt0 h2 (by rw [← hk2]; exact hik)
        rw [← hk2] at hs
        obtain ⟨M2, hM2⟩ : ∃ i2 : Nat, (M : Int) - (k : Int) = (i2 : Int) := ⟨M - k, by omega⟩
        obtain ⟨N2, hN2⟩ : ∃ m2 : Nat, (N : Int) - (k : Int) = (m2 : Int) := ⟨N - k, by omega⟩
        have ei : M - k = M2 := by omega
        have em : N - k = N2 := by omega
        rw [ei, em] at hs
        obtain ⟨U, hU⟩ : ∃ U, U = showG n M2 N2 h ps.dropLast false := ⟨_, rfl⟩
        have hU32 : U.1.length = 32 ∧ U.2.length = 32 := by
          rw [hU]; exact showG_length n N2 M2 h ps.dropLast false hh hd32 (by omega) (by rw [List.length_dropLast, hl, hs]; rfl)
        have HShow := Lib.hid (fun (W : World) (hW : Below w.heap.size w W) => ih N2 (by omega) M2 h ps.dropLast false (.slice (some pad) z pc) W hh (by omega) (by omega) (by omega) (hv2.below (Nat.le_refl _) hW) (by rw [List.length_dropLast, hl, hs]; rfl) (hk.below (Nat.le_refl _) hW))
        have hres : showG n M N h ps old = (nodeH n y U.1, nodeH n y U.2) := by rw [showG_right n h ps old hlt0 h2 (by rw [← hk2]; exact hik), hU, hlast, ← ei, ← em, hk2]
        rw [← hU] at HShow
        rw [hres]
        obtain ⟨o, ho⟩ : ∃ o, o = U.1 := ⟨_, rfl⟩
        obtain ⟨r, hr⟩ : ∃ r, r = U.2 := ⟨_, rfl⟩
        rw [← ho, ← hr] at hU32 HShow ⊢
        obtain ⟨ho32, hr32⟩ := hU32
        obtain ⟨Q, hQ, hQ32⟩ : ∃ Q, Q = nodeH n y o ∧ Q.length = 32 := ⟨_, rfl, nodeH_length _ _ _⟩
        obtain ⟨R, hR, hR32⟩ : ∃ R, R = nodeH n y r ∧ R.length = 32 := ⟨_, rfl, nodeH_length _ _ _⟩
        have HNodeQ := Lib.hid (fun (W : World) (hW : Below w.heap.size w W) => node_any n y o W hn hy32 ho32 (hk.below (Nat.le_refl _) hW))
        have HNode := Lib.hid (fun (W : World) (hW : Below w.heap.size w W) => node_any n y r W hn hy32 hr32 (hk.below (Nat.le_refl _) hW))
        rw [← hQ] at HNodeQ
        rw [← hR] at HNode
        rw [← hQ, ← hR]
        have hle : ¬ (M : Int) ≤ (k : Int) := by omega
        have HM2 := Lib.hid hM2
        have HN2 := Lib.hid hN2
        have hM2b : M2 < 18446744073709551616 := by omega
        have hN2b : N2 < 18446744073709551616 := by omega
        have HSo := Lib.hid (size_hash (cs := bs o) (by rw [bs_size, ho32]))
        have HSr := Lib.hid (size_hash (cs := bs r) (by rw [bs_size, hr32]))
        have HSQ := Lib.hid (size_hash (cs := bs Q) (by rw [bs_size, hQ32]))
        have HSR := Lib.hid (size_hash (cs := bs R) (by rw [bs_size, hR32]))
        have HQ := Lib.hid hQ32
        have HoS := Lib.hid (show (bs o).size = 32 by rw [bs_size, ho32])
        have HrS := Lib.hid (show (bs r).size = 32 by rw [bs_size, hr32])
        have HQS := Lib.hid (show (bs Q).size = 32 by rw [bs_size, hQ32])
        have HR := Lib.hid hR32
        have HRS := Lib.hid (show (bs R).size = 32 by rw [bs_size, hR32])
        clear ih hh hv hl hk hs hU ho32 hr32 hQ hQ32 hR hR32 hres ho hr hlast hdl hy hy32 hv2 hp hk2 hd32 hn ei em
        go_enter Tryd.func89, Tryd.ntmps89
        go_upto_region 1 with fail
        refine world_cut (fun W => ShW w h W) HP.out ?_
        clear HP
        intro W1 hW1
        have HW1 := Lib.hid hW1
        clear hW1
        go_upto_region 5 with fail
        have hG : ∀ W W' : World, ShW w h W → Below W.heap.size W W' → ShW w h W' := fun W W' h h' => h.keep h'
        refine region_fill_by 13 _ (fun b => [(15, (if b then varF (w.heap.size + 3) 24 (bs y) else varF (w.heap.size + 3) 24 (bs (List.replicate 32 0)))), (33, .is (.slice (some pad) p pc)), (34, .is (.slice (some pad) p pc)), (35, .is (.int .i64 (p : Int))), (36, .is (.int .i64 (z : Int))), (37, .is (.slice (some pad) z pc)), (38, .is (.slice (some pad) p pc)), (39, .is (.slice (some pad) p pc)), (40, .is (.int .i64 (p : Int))), (41, .is (.int .i64 (z : Int))), (42, .is (.pointer (some (pad.add (z * 32))))), (43, .is (.agg (bs y))), (14, .is (.slice (some pad) z pc))]) [0, 1, 2, 4, 9, 12, 13, 14, 15] (fun W => ShW w h W) (by kernel_rfl) (by kernel_rfl) (by kernel_rfl) (by kernel_rfl) (by kernel_rfl) (hG _ _ HW1.out (Below.refl _ _).drew) rfl rfl ?_ ?_ ?_
        · refine ⟨?c0, ?c1, ?c2, ?c3, ?c4, ?c5, ?c6, ?c7, ?c8, ?c9, ?c10, ?c11, ?c12, ?c13, trivial⟩
          case c0 => exact .inr (.inl fun b => ask_copy (guard_none rfl) (.tmp 5) (.inl rfl) (by intro k hk; cases hk; rfl))
          case c1 => exact .inr (.inl fun b => ask_copy (guard_none rfl) (.tmp 5) (.inl rfl) (by intro k hk; cases hk; rfl))
          case c2 => exact .inr (.inl fun b => ask_len (guard_none rfl) (.tmp 34) _ (some pad) p pc rfl (by kernel_rfl) rfl (by intro k hk; cases hk; rfl))
          case c3 => exact .inr (.inl fun b => ask_bin (guard_none rfl) .sub _ _ (.tmp 35) (.const (.int .i64 1)) (.int .i64 (p : Int)) (.int .i64 1) (.int .i64 (z : Int)) rfl rfl rfl (by intro k hk; cases hk; rfl) (fun W => sub_i64 _ _ _ _ _ _ HZP.out (by omega) W))
          case c4 => exact .inr (.inl fun b => ask_slice (guard_none rfl) _ (.tmp 33) none (some (.tmp 36)) none (.slice (some pad) p pc) (.slice (some pad) z pc) none (some (.int .i64 (z : Int))) none rfl rfl rfl rfl rfl (by intro k hk; cases hk; rfl) (HSl.out))
          case c5 => exact .inr (.inl fun b => ask_copy (guard_none rfl) (.tmp 5) (.inl rfl) (by intro k hk; cases hk; rfl))
          case c6 => exact .inr (.inl fun b => ask_copy (guard_none rfl) (.tmp 5) (.inl rfl) (by intro k hk; cases hk; rfl))
          case c7 => exact .inr (.inl fun b => ask_len (guard_none rfl) (.tmp 39) _ (some pad) p pc rfl (by kernel_rfl) rfl (by intro k hk; cases hk; rfl))
          case c8 => exact .inr (.inl fun b => ask_bin (guard_none rfl) .sub _ _ (.tmp 40) (.const (.int .i64 1)) (.int .i64 (p : Int)) (.int .i64 1) (.int .i64 (z : Int)) rfl rfl rfl (by intro k hk; cases hk; rfl) (fun W => sub_i64 _ _ _ _ _ _ HZP.out (by omega) W))
          case c9 => exact .inr (.inl fun b => ask_idx (guard_none rfl) _ (.tmp 38) (.tmp 41) (.slice (some pad) p pc) (.int .i64 (z : Int)) (.pointer (some (pad.add (z * 32)))) rfl rfl rfl (by intro k hk; cases hk; rfl) HIx.out)
          case c10 => exact .inr (.inl fun b => ask_load (guard_none rfl) _ (.tmp 42) (.pointer (some (pad.add (z * 32)))) (.agg (bs y)) rfl rfl (by intro k hk; cases hk; rfl) (fun W hW => HLd.out W hW.2.2.2))
          case c11 => exact .inr (.inr ⟨by kernel_rfl, ask_alloc hG (guard_none rfl) _ (.agg (bs (List.replicate 32 0))) (varF (w.heap.size + 3) 24 (bs (List.replicate 32 0))) rfl (fun W => by kernel_rfl) (by intro k hk; cases hk; rfl) (fun W hW => ⟨_, rfl, hW.lt, Blk.new W _ _⟩)⟩)
          case c12 => exact .inr (.inl fun b => ask_copy (guard_none rfl) (.tmp 37) (.inr rfl) (by intro k hk; cases hk; rfl))
          case c13 => exact .inl rfl
        · intro x W hW hk
          obtain ⟨g, e1, e2, e3⟩ : ∃ g, x 15 = .pointer (some ⟨g, 0, none⟩) ∧ w.heap.size + 3 ≤ g ∧ Blk W g 24 (bs (List.replicate 32 0)) := hk 15 rfl
          have e4 : x 43 = .agg (bs y) := hk 43 rfl
          refine ⟨guard_ok (guard_none rfl) hk, gives_store 24 (.tmp 15) (.tmp 43) rfl (.pointer (some ⟨g, 0, none⟩)) (.agg (bs y)) e1 e4 (e3.stores 24 _ HSy.out (by rw [HyS.out]; rfl) (bs_one _)) ⟨hW.row g _ e2, fun k _ hu => ?_⟩⟩
          by_cases h12 : k = 15
          · subst h12
            exact ⟨g, e1, e2, e3.row _⟩
          · simp only [factsOf_ne h12] at hu ⊢
            refine facts_keep (fun q hq u hu => ?_) k _ hu
            simp only [List.mem_cons, List.not_mem_nil, or_false] at hq
            rcases hq with rfl | rfl | rfl | rfl | rfl | rfl | rfl | rfl | rfl | rfl | rfl | rfl
            all_goals exact hu
        · intro a' W3 hW hd' hs' hf'
          have t15 : ∃ g, a'.tmps.getD 15 undef = .pointer (some ⟨g, 0, none⟩) ∧ w.heap.size + 3 ≤ g ∧ Blk W3 g 24 (bs y) := hf' 15 rfl
          obtain ⟨g, e15, hg15, hb15⟩ := t15
          have t0 : a'.tmps.getD 0 undef = .int .i64 n := hf' 0 rfl
          have t1 : a'.tmps.getD 1 undef = .int .u64 (M : Int) := hf' 1 rfl
          have t2 : a'.tmps.getD 2 undef = .int .u64 (N : Int) := hf' 2 rfl
          have t4 : a'.tmps.getD 4 undef = .bool old := hf' 4 rfl
          have t9 : a'.tmps.getD 9 undef = .pointer (some ⟨w.heap.size, 0, none⟩) := hf' 9 rfl
          have t12 : a'.tmps.getD 12 undef = .pointer (some ⟨w.heap.size + 1, 0, none⟩) := hf' 12 rfl
          have t13 : a'.tmps.getD 13 undef = .pointer (some ⟨w.heap.size + 2, 0, none⟩) := hf' 13 rfl
          have t14 : a'.tmps.getD 14 undef = .slice (some pad) z pc := hf' 14 rfl
          have t15 := e15
          obtain ⟨us', hus, ha'⟩ := act_open 85 a' hs' hd'
          rw [← hus] at t0 t1 t2 t4 t9 t12 t13 t14 t15
          have el : ((List.range 85).map us').toArray = #[.int .i64 n, .int .u64 (M : Int), .int .u64 (N : Int), us' 3, .bool old, us' 5, us' 6, us' 7, us' 8, .pointer (some ⟨w.heap.size, 0, none⟩), us' 10, us' 11, .pointer (some ⟨w.heap.size + 1, 0, none⟩), .pointer (some ⟨w.heap.size + 2, 0, none⟩), .slice (some pad) z pc, .pointer (some ⟨g, 0, none⟩), us' 16, us' 17, us' 18, us' 19, us' 20, us' 21, us' 22, us' 23, us' 24, us' 25, us' 26, us' 27, us' 28, us' 29, us' 30, us' 31, us' 32, us' 33, us' 34, us' 35, us' 36, us' 37, us' 38, us' 39, us' 40, us' 41, us' 42, us' 43, us' 44, us' 45, us' 46, us' 47, us' 48, us' 49, us' 50, us' 51, us' 52, us' 53, us' 54, us' 55, us' 56, us' 57, us' 58, us' 59, us' 60, us' 61, us' 62, us' 63, us' 64, us' 65, us' 66, us' 67, us' 68, us' 69, us' 70, us' 71, us' 72, us' 73, us' 74, us' 75, us' 76, us' 77, us' 78, us' 79, us' 80, us' 81, us' 82, us' 83, us' 84] := by
            show #[us' 0, us' 1, us' 2, us' 3, us' 4, us' 5, us' 6, us' 7, us' 8, us' 9, us' 10, us' 11, us' 12, us' 13, us' 14, us' 15, us' 16, us' 17, us' 18, us' 19, us' 20, us' 21, us' 22, us' 23, us' 24, us' 25, us' 26, us' 27, us' 28, us' 29, us' 30, us' 31, us' 32, us' 33, us' 34, us' 35, us' 36, us' 37, us' 38, us' 39, us' 40, us' 41, us' 42, us' 43, us' 44, us' 45, us' 46, us' 47, us' 48, us' 49, us' 50, us' 51, us' 52, us' 53, us' 54, us' 55, us' 56, us' 57, us' 58, us' 59, us' 60, us' 61, us' 62, us' 63, us' 64, us' 65, us' 66, us' 67, us' 68, us' 69, us' 70, us' 71, us' 72, us' 73, us' 74, us' 75, us' 76, us' 77, us' 78, us' 79, us' 80, us' 81, us' 82, us' 83, us' 84] = _
            rw [t0, t1, t2, t4, t9, t12, t13, t14, t15]
          rw [el] at ha'
          subst ha'
          clear e15 hus t0 t1 t2 t4 t9 t12 t13 t14 t15 el hf' hs' hd'
          have HW3 := Lib.hid (And.intro hW hb15)
          have hg2 : w.heap.size + 2 < g := by omega
          clear hW hb15 hG hg15 HW1 HIx HSl HLd HZP
          go_wp2_with fail
          refine (HSplit.out _).mono ?_
          rintro e W4 ⟨rfl, rfl⟩
          clear HSplit
          go_wp2_with (refine wpList_load_row rfl 24 (.tmp 9) rfl w.heap.size rfl 24 (bs h) (0, 0) _ HW3.out.1.1 Tryd.underlying24 rfl HSh.out ?_)
          refine (HShow.out _ HW3.out.1.2.2.2).mono ?_
          rintro e W5 ⟨rfl, hb5⟩
          have hW5 : ShW w h W5 ∧ Blk W5 g 24 (bs y) := ⟨HW3.out.1.keep hb5, HW3.out.2.keep hb5⟩
          have HW5 := Lib.hid hW5
          have hg5 : w.heap.size + 2 < W5.heap.size := hW5.1.lt
          have hgl : g < W5.heap.size := hW5.2.lt
          clear hW5 hb5 HShow HW3
          go_upto_region 11 with (first
            | (refine wpList_store_row rfl 24 (.tmp 19) (.tmp 75) rfl W5.heap.size (bs o) rfl rfl 24 _ ((Blk.new W5 _ _).alloc _) HSo.out (by rw [HoS.out]; rfl) (bs_one _) ?_)
            | (refine wpList_store_row rfl 24 (.tmp 20) (.tmp 76) rfl (W5.heap.size + 1) (bs r) rfl rfl 24 _ (Blk.rowOther (Blk.newAt _ _ _ _ _ (by simp) rfl) _ (by omega)) HSr.out (by rw [HrS.out]; rfl) (bs_one _) ?_))
          have hB6 := below_setRow (below_setRow (((Below.refl W5.heap.size W5).alloc (Nat.le_refl _) (.cells (bs (List.replicate 32 0)) 24)).alloc (by simp) (.cells (bs (List.replicate 32 0)) 24)) W5.heap.size (bs o) (Nat.le_refl _)) (W5.heap.size + 1) (bs r) (by omega)
          refine world_cut (fun W => ShZ w h y g o r W5.heap.size (W5.heap.size + 1) W) ⟨HW5.out.1.keep hB6, HW5.out.2.keep hB6, (Blk.row ((Blk.new W5 _ _).alloc _) (bs o)).rowOther _ (by omega), Blk.row (Blk.rowOther (Blk.newAt _ _ _ _ _ (by simp) rfl) _ (by omega)) (bs r)⟩ ?_
          clear hB6
          rintro W6 hZ
          obtain ⟨gx, hgx⟩ : ∃ g, g = W5.heap.size := ⟨_, rfl⟩
          obtain ⟨gy, hgy⟩ : ∃ g, g = W5.heap.size + 1 := ⟨_, rfl⟩
          have hx3 : w.heap.size + 2 < gx := by omega
          have hy3 : w.heap.size + 2 < gy := by omega
          rw [← hgy, ← hgx] at hZ
          rw [← hgy, ← hgx]
          have HZ := Lib.hid hZ
          clear hZ hgx hgy hg5 hgl HW5
          have hG : ∀ W W' : World, ShZ w h y g o r gx gy W → Below W.heap.size W W' → ShZ w h y g o r gx gy W' := fun W W' h h' => h.keep h'
          refine region_rel_by 8 9 (fun _ _ => [(77, .is (.int .i64 n)), (78, .is (.agg (bs y))), (79, .is (.agg (bs o))), (80, .is (.agg (bs Q))), (81, .is (.int .i64 n)), (82, .is (.agg (bs y))), (83, .is (.agg (bs r))), (84, .is (.agg (bs R)))]) [12, 13] (fun W => ShZ w h y g o r gx gy W) (Put2 8 9 (w.heap.size + 1) (w.heap.size + 2) 24 (bs Q) (bs R)) (by kernel_rfl) (by kernel_rfl) (by kernel_rfl) (by kernel_rfl) (by kernel_rfl) (by decide) (by decide) (HZ.out.keep (Below.refl _ _).drew) (put2_none _ _ _) ?_ ?_
          · refine ⟨?c0, ?c1, ?c2, ?c3, ?c4, ?c5, ?c6, ?c7, ?c8, ?c9, trivial⟩
            case c0 => exact plain_put (by kernel_rfl) (fun Wx => ask_copy (guard_none rfl) (.tmp 0) (.inl rfl) (by intro k hk; cases hk; rfl))
            case c1 => exact plain_put (by kernel_rfl) (fun Wx => ask_load (guard_none rfl) _ (.tmp 15) (.pointer (some ⟨g, 0, none⟩)) (.agg (bs y)) rfl rfl (by intro k hk; cases hk; rfl) (fun W hW => (hW.1.2.1).loads 24 _ Tryd.underlying24 rfl HSy.out))
            case c2 => exact plain_put (by kernel_rfl) (fun Wx => ask_load (guard_none rfl) _ (.tmp 19) (.pointer (some ⟨gx, 0, none⟩)) (.agg (bs o)) rfl rfl (by intro k hk; cases hk; rfl) (fun W hW => (hW.1.2.2.1).loads 24 _ Tryd.underlying24 rfl HSo.out))
            case c3 => exact plain_put (by kernel_rfl) (fun Wx => ask_call (grow_both hG Wx) (guard_none rfl) _ _ _ #[.int .i64 n, .agg (bs y), .agg (bs o)] (.is (.agg (bs Q))) rfl (by kernel_rfl) rfl rfl (by intro k hk; cases hk; rfl) (fun W hW => (HNodeQ.out W hW.1.1.2.2.2).mono fun e w' h => ⟨_, h.1, rfl, h.2⟩))
            case c4 => exact plain_put (by kernel_rfl) (fun Wx => ask_copy (guard_none rfl) (.tmp 0) (.inl rfl) (by intro k hk; cases hk; rfl))
            case c5 => exact plain_put (by kernel_rfl) (fun Wx => ask_load (guard_none rfl) _ (.tmp 15) (.pointer (some ⟨g, 0, none⟩)) (.agg (bs y)) rfl rfl (by intro k hk; cases hk; rfl) (fun W hW => (hW.1.2.1).loads 24 _ Tryd.underlying24 rfl HSy.out))
            case c6 => exact plain_put (by kernel_rfl) (fun Wx => ask_load (guard_none rfl) _ (.tmp 20) (.pointer (some ⟨gy, 0, none⟩)) (.agg (bs r)) rfl rfl (by intro k hk; cases hk; rfl) (fun W hW => (hW.1.2.2.2).loads 24 _ Tryd.underlying24 rfl HSr.out))
            case c7 => exact plain_put (by kernel_rfl) (fun Wx => ask_call (grow_both hG Wx) (guard_none rfl) _ _ _ #[.int .i64 n, .agg (bs y), .agg (bs r)] (.is (.agg (bs R))) rfl (by kernel_rfl) rfl rfl (by intro k hk; cases hk; rfl) (fun W hW => (HNode.out W hW.1.1.2.2.2).mono fun e w' h => ⟨_, h.1, rfl, h.2⟩))
            case c8 => exact .inr (put2_p rfl 24 (.tmp 12) (.tmp 80) rfl rfl rfl rfl (by kernel_rfl) (by decide) (by omega) (fun W hW => hW.1.cur1 HQS.out) HSQ.out (bs_one _) (fun W hW => hW.row1 _ HQS.out hg2 hx3 hy3))
            case c9 => exact .inr (put2_q rfl 24 (.tmp 13) (.tmp 84) rfl rfl rfl rfl (by kernel_rfl) (by decide) (by omega) (fun W hW => hW.1.cur2 HRS.out) HSR.out (bs_one _) (fun W hW => hW.row2 _ HRS.out hg2 hx3 hy3))
          · intro L a' W hall hW hr hd' hs' hf'
            have HA := Lib.hid (hr.1 (hall 8 (by decide)))
            have HBk := Lib.hid (hr.2 (hall 9 (by decide)))
            have t12 : a'.tmps.getD 12 undef = .pointer (some ⟨w.heap.size + 1, 0, none⟩) := hf' 12 rfl
            have t13 : a'.tmps.getD 13 undef = .pointer (some ⟨w.heap.size + 2, 0, none⟩) := hf' 13 rfl
            obtain ⟨us', hus, ha'⟩ := act_open 85 a' hs' hd'
            rw [← hus] at t12 t13
            have el : ((List.range 85).map us').toArray = #[us' 0, us' 1, us' 2, us' 3, us' 4, us' 5, us' 6, us' 7, us' 8, us' 9, us' 10, us' 11, .pointer (some ⟨w.heap.size + 1, 0, none⟩), .pointer (some ⟨w.heap.size + 2, 0, none⟩), us' 14, us' 15, us' 16, us' 17, us' 18, us' 19, us' 20, us' 21, us' 22, us' 23, us' 24, us' 25, us' 26, us' 27, us' 28, us' 29, us' 30, us' 31, us' 32, us' 33, us' 34, us' 35, us' 36, us' 37, us' 38, us' 39, us' 40, us' 41, us' 42, us' 43, us' 44, us' 45, us' 46, us' 47, us' 48, us' 49, us' 50, us' 51, us' 52, us' 53, us' 54, us' 55, us' 56, us' 57, us' 58, us' 59, us' 60, us' 61, us' 62, us' 63, us' 64, us' 65, us' 66, us' 67, us' 68, us' 69, us' 70, us' 71, us' 72, us' 73, us' 74, us' 75, us' 76, us' 77, us' 78, us' 79, us' 80, us' 81, us' 82, us' 83, us' 84] := by
              show #[us' 0, us' 1, us' 2, us' 3, us' 4, us' 5, us' 6, us' 7, us' 8, us' 9, us' 10, us' 11, us' 12, us' 13, us' 14, us' 15, us' 16, us' 17, us' 18, us' 19, us' 20, us' 21, us' 22, us' 23, us' 24, us' 25, us' 26, us' 27, us' 28, us' 29, us' 30, us' 31, us' 32, us' 33, us' 34, us' 35, us' 36, us' 37, us' 38, us' 39, us' 40, us' 41, us' 42, us' 43, us' 44, us' 45, us' 46, us' 47, us' 48, us' 49, us' 50, us' 51, us' 52, us' 53, us' 54, us' 55, us' 56, us' 57, us' 58, us' 59, us' 60, us' 61, us' 62, us' 63, us' 64, us' 65, us' 66, us' 67, us' 68, us' 69, us' 70, us' 71, us' 72, us' 73, us' 74, us' 75, us' 76, us' 77, us' 78, us' 79, us' 80, us' 81, us' 82, us' 83, us' 84] = _
              rw [t12, t13]
            rw [el] at ha'
            subst ha'
            clear hus t12 t13 el hf' hs' hd'
            go_wp2
            exact bodyPost_ret (v := .tuple #[.agg (bs Q), .agg (bs R)]) (ret_two rfl _ _ (w.heap.size + 1) (w.heap.size + 2) (bs Q) (bs R) (by rw [bs_size, HQ.out]) (by rw [bs_size, HR.out]) rfl rfl HA.out HBk.out) rfl ⟨rfl, hW.1.2.2.2⟩
end Go.Proofs.YtdhfabjkpffhnaaDoor

/- Layer 16: the program's Climb. -/
namespace Go.Proofs.YtdhfabjkpffhnaaDoor
set_option maxRecDepth 20000
open Go.RowKit ShaMath LeafMath PathMath GrowthMath Reg

set_option maxHeartbeats 2000000 in
set_option maxRecDepth 100000 in
theorem gclimb_any (n : Int) (hn : I64 n) (h : Hs) (m N : Nat) (ps : List Hs) (v : Value) (w : World) (hh : h.length = 32) (hm : m < 18446744073709551616) (hN : N < 18446744073709551616) (hv : Hss w v ps) (hk : Tabs w) :
    Calls Tryd.prog 69 #[.int .i64 n, .int .u64 (m : Int), .int .u64 (N : Int), .agg (bs h), v] w fun e w' => e = .returned (.tuple #[.agg (bs (climbGR n h m N ps).1.1), .agg (bs (climbGR n h m N ps).1.2), .int .i64 ((climbGR n h m N ps).2 : Int)]) ∧ Below w.heap.size w w' := by
  have HP := Lib.hid (ShW.new w h)
  obtain ⟨pa, pc, rfl, _⟩ := hv.form
  obtain ⟨p, hp⟩ : ∃ p, p = ps.length := ⟨_, rfl⟩
  rw [← hp] at hv ⊢
  obtain ⟨S, hS⟩ : ∃ S, S = growS m N := ⟨_, rfl⟩
  have hSb : S ≤ 65 := by rw [hS]; exact growS_65 m N hN
  have HSize := Lib.hid (fun W => gsize_any m N W hm hN)
  rw [← hS] at HSize
  obtain ⟨zz, hzz⟩ : ∃ z, z = z32 := ⟨_, rfl⟩
  have hz32 : zz.length = 32 := by rw [hzz]; rfl
  have HZ := Lib.hid (size_hash (cs := bs zz) (by rw [bs_size, hz32]))
  have HZ32 := Lib.hid hz32
  have HzS := Lib.hid (show (bs zz).size = 32 by rw [bs_size, hz32])
  have HZe := Lib.hid (show bs zz = bs (List.replicate 32 0) by rw [hzz]; rfl)
  by_cases h0 : m = 0
  · have hr : climbGR n h m N ps = ((zz, zz), 9) := by rw [climbGR, if_pos (.inl h0), hzz]
    rw [hr]
    clear hv hk hr hzz hz32 hh hS hp hn
    subst h0
    go_enter Tryd.func69, Tryd.ntmps69
    go_upto_region 1 with fail
    refine world_cut (fun W => ShW w h W) HP.out ?_
    clear HP
    intro W1 hW1
    have HW1 := Lib.hid hW1
    clear hW1
    obtain ⟨-, ⟨zs, hz1, hz2⟩, ⟨zt, hz3, hz4⟩, hb⟩ := HW1.out
    have HZ1 := Lib.hid hz1
    have HZ2 := Lib.hid hz2
    have HZ3 := Lib.hid hz3
    have HZ4 := Lib.hid hz4
    have HB := Lib.hid hb
    clear hz1 hz2 hz3 hz4 hb
    go_wp2_with (first
      | (refine wpList_store_row rfl 24 (.tmp 10) (.tmp 23) rfl (w.heap.size + 1) (bs zz) rfl (by rw [HZe.out]; rfl) 24 _ HZ1.out HZ.out (by rw [HzS.out, HZ2.out]) (bs_one _) ?_)
      | (refine wpList_store_row rfl 24 (.tmp 11) (.tmp 24) rfl (w.heap.size + 2) (bs zz) rfl (by rw [HZe.out]; rfl) 24 _ (HZ3.out.rowOther _ (by omega)) HZ.out (by rw [HzS.out, HZ4.out]) (bs_one _) ?_))
    exact bodyPost_ret (v := .tuple #[.agg (bs zz), .agg (bs zz), .int .i64 9]) (ret_two_tmp rfl _ _ (w.heap.size + 1) (w.heap.size + 2) (bs zz) (bs zz) _ (by rw [bs_size, HZ32.out]) (by rw [bs_size, HZ32.out]) rfl rfl rfl ((Blk.row HZ1.out (bs zz)).rowOther _ (by omega)) (Blk.row (HZ3.out.rowOther _ (by omega)) (bs zz))) rfl ⟨rfl, below_setRow (below_setRow HB.out _ _ (by omega)) _ _ (by omega)⟩
  · have hz : ((m : Int) == 0) = false := by simpa using h0
    by_cases hc : N < m
    · have hr : climbGR n h m N ps = ((zz, zz), 9) := by rw [climbGR, if_pos (.inr hc), hzz]
      rw [hr]
      have hgt : decide ((m : Int) > (N : Int)) = true := decide_eq_true (by omega)
      clear hv hk hr hzz hz32 hh hS hp hn
      go_enter Tryd.func69, Tryd.ntmps69
      go_upto_region 1 with fail
      refine world_cut (fun W => ShW w h W) HP.out ?_
      clear HP
      intro W1 hW1
      have HW1 := Lib.hid hW1
      clear hW1
      obtain ⟨-, ⟨zs, hz1, hz2⟩, ⟨zt, hz3, hz4⟩, hb⟩ := HW1.out
      have HZ1 := Lib.hid hz1
      have HZ2 := Lib.hid hz2
      have HZ3 := Lib.hid hz3
      have HZ4 := Lib.hid hz4
      have HB := Lib.hid hb
      clear hz1 hz2 hz3 hz4 hb
      go_wp2_with (first
        | (refine wpList_store_row rfl 24 (.tmp 10) (.tmp 23) rfl (w.heap.size + 1) (bs zz) rfl (by rw [HZe.out]; rfl) 24 _ HZ1.out HZ.out (by rw [HzS.out, HZ2.out]) (bs_one _) ?_)
        | (refine wpList_store_row rfl 24 (.tmp 11) (.tmp 24) rfl (w.heap.size + 2) (bs zz) rfl (by rw [HZe.out]; rfl) 24 _ (HZ3.out.rowOther _ (by omega)) HZ.out (by rw [HzS.out, HZ4.out]) (bs_one _) ?_))
      exact bodyPost_ret (v := .tuple #[.agg (bs zz), .agg (bs zz), .int .i64 9]) (ret_two_tmp rfl _ _ (w.heap.size + 1) (w.heap.size + 2) (bs zz) (bs zz) _ (by rw [bs_size, HZ32.out]) (by rw [bs_size, HZ32.out]) rfl rfl rfl ((Blk.row HZ1.out (bs zz)).rowOther _ (by omega)) (Blk.row (HZ3.out.rowOther _ (by omega)) (bs zz))) rfl ⟨rfl, below_setRow (below_setRow HB.out _ _ (by omega)) _ _ (by omega)⟩
    · have hgt : decide ((m : Int) > (N : Int)) = false := decide_eq_false (by omega)
      by_cases h2 : p < S
      · have hr : climbGR n h m N ps = ((zz, zz), 2) := by rw [climbGR, if_neg (by omega), if_pos (by rw [← hp, ← hS]; exact h2), hzz]
        rw [hr]
        have HLen := Lib.hid (show ∀ W, Calls Tryd.prog 84 #[.int .i64 (p : Int), .int .i64 (S : Int)] W fun e w' => e = .returned (.int .i64 2) ∧ w' = W from fun W => by
          have hx := splitLength_any p S W
          rw [lenR, if_pos (by omega)] at hx
          exact hx)
        clear hv hk hr hzz hz32 hh hS hp hn
        go_enter Tryd.func69, Tryd.ntmps69
        go_upto_region 1 with fail
        refine world_cut (fun W => ShW w h W) HP.out ?_
        clear HP
        intro W1 hW1
        have HW1 := Lib.hid hW1
        clear hW1
        go_wp2_with fail
        refine (HSize.out _).mono ?_
        rintro e W2 ⟨rfl, rfl⟩
        go_wp2_with fail
        refine (HLen.out _).mono ?_
        rintro e W2 ⟨rfl, rfl⟩
        obtain ⟨-, ⟨zs, hz1, hz2⟩, ⟨zt, hz3, hz4⟩, hb⟩ := HW1.out
        have HZ1 := Lib.hid hz1
        have HZ2 := Lib.hid hz2
        have HZ3 := Lib.hid hz3
        have HZ4 := Lib.hid hz4
        have HB := Lib.hid hb
        clear hz1 hz2 hz3 hz4 hb
        go_wp2_with (first
          | (refine wpList_store_row rfl 24 (.tmp 10) (.tmp 33) rfl (w.heap.size + 1) (bs zz) rfl (by rw [HZe.out]; rfl) 24 _ HZ1.out HZ.out (by rw [HzS.out, HZ2.out]) (bs_one _) ?_)
          | (refine wpList_store_row rfl 24 (.tmp 11) (.tmp 34) rfl (w.heap.size + 2) (bs zz) rfl (by rw [HZe.out]; rfl) 24 _ (HZ3.out.rowOther _ (by omega)) HZ.out (by rw [HzS.out, HZ4.out]) (bs_one _) ?_))
        exact bodyPost_ret (v := .tuple #[.agg (bs zz), .agg (bs zz), .int .i64 2]) (ret_two_tmp rfl _ _ (w.heap.size + 1) (w.heap.size + 2) (bs zz) (bs zz) _ (by rw [bs_size, HZ32.out]) (by rw [bs_size, HZ32.out]) rfl rfl rfl ((Blk.row HZ1.out (bs zz)).rowOther _ (by omega)) (Blk.row (HZ3.out.rowOther _ (by omega)) (bs zz))) rfl ⟨rfl, below_setRow (below_setRow HB.out _ _ (by omega)) _ _ (by omega)⟩
      · by_cases h3 : S < p
        · have hr : climbGR n h m N ps = ((zz, zz), 4) := by rw [climbGR, if_neg (by omega), if_neg (by rw [← hp, ← hS]; exact h2), if_pos (by rw [← hp, ← hS]; exact h3), hzz]
          rw [hr]
          have HLen := Lib.hid (show ∀ W, Calls Tryd.prog 84 #[.int .i64 (p : Int), .int .i64 (S : Int)] W fun e w' => e = .returned (.int .i64 4) ∧ w' = W from fun W => by
            have hx := splitLength_any p S W
            rw [lenR, if_neg (by omega), if_pos (by omega)] at hx
            exact hx)
          clear hv hk hr hzz hz32 hh hS hp hn
          go_enter Tryd.func69, Tryd.ntmps69
          go_upto_region 1 with fail
          refine world_cut (fun W => ShW w h W) HP.out ?_
          clear HP
          intro W1 hW1
          have HW1 := Lib.hid hW1
          clear hW1
          go_wp2_with fail
          refine (HSize.out _).mono ?_
          rintro e W2 ⟨rfl, rfl⟩
          go_wp2_with fail
          refine (HLen.out _).mono ?_
          rintro e W2 ⟨rfl, rfl⟩
          obtain ⟨-, ⟨zs, hz1, hz2⟩, ⟨zt, hz3, hz4⟩, hb⟩ := HW1.out
          have HZ1 := Lib.hid hz1
          have HZ2 := Lib.hid hz2
          have HZ3 := Lib.hid hz3
          have HZ4 := Lib.hid hz4
          have HB := Lib.hid hb
          clear hz1 hz2 hz3 hz4 hb
          go_wp2_with (first
            | (refine wpList_store_row rfl 24 (.tmp 10) (.tmp 33) rfl (w.heap.size + 1) (bs zz) rfl (by rw [HZe.out]; rfl) 24 _ HZ1.out HZ.out (by rw [HzS.out, HZ2.out]) (bs_one _) ?_)
            | (refine wpList_store_row rfl 24 (.tmp 11) (.tmp 34) rfl (w.heap.size + 2) (bs zz) rfl (by rw [HZe.out]; rfl) 24 _ (HZ3.out.rowOther _ (by omega)) HZ.out (by rw [HzS.out, HZ4.out]) (bs_one _) ?_))
          exact bodyPost_ret (v := .tuple #[.agg (bs zz), .agg (bs zz), .int .i64 4]) (ret_two_tmp rfl _ _ (w.heap.size + 1) (w.heap.size + 2) (bs zz) (bs zz) _ (by rw [bs_size, HZ32.out]) (by rw [bs_size, HZ32.out]) rfl rfl rfl ((Blk.row HZ1.out (bs zz)).rowOther _ (by omega)) (Blk.row (HZ3.out.rowOther _ (by omega)) (bs zz))) rfl ⟨rfl, below_setRow (below_setRow HB.out _ _ (by omega)) _ _ (by omega)⟩
        · have hr : climbGR n h m N ps = (showG n m N h ps true, 0) := by rw [climbGR, if_neg (by omega), if_neg (by rw [← hp, ← hS]; exact h2), if_neg (by rw [← hp, ← hS]; exact h3)]
          rw [hr]
          have HLen := Lib.hid (show ∀ W, Calls Tryd.prog 84 #[.int .i64 (p : Int), .int .i64 (S : Int)] W fun e w' => e = .returned (.int .i64 0) ∧ w' = W from fun W => by
            have hx := splitLength_any p S W
            rw [lenR, if_neg (by omega), if_neg (by omega)] at hx
            exact hx)
          have hSe : S = sizeG m N true := by rw [hS, growS, if_neg (by omega)]
          obtain ⟨U, hU⟩ : ∃ U, U = showG n m N h ps true := ⟨_, rfl⟩
          have hU32 : U.1.length = 32 ∧ U.2.length = 32 := by
            rw [hU]; exact showG_length n N m h ps true hh hv.all (by omega) (by omega)
          have HShow := Lib.hid (fun (W : World) (hW : Below w.heap.size w W) => gclimb_in n hn N m h ps true (.slice pa p pc) W hh (by omega) (by omega) hN (hv.below (Nat.le_refl _) hW) (by omega) (hk.below (Nat.le_refl _) hW))
          rw [← hU] at HShow ⊢
          obtain ⟨o, ho⟩ : ∃ o, o = U.1 := ⟨_, rfl⟩
          obtain ⟨r, hrr⟩ : ∃ r, r = U.2 := ⟨_, rfl⟩
          rw [← ho, ← hrr] at hU32 HShow ⊢
          obtain ⟨ho32, hr32⟩ := hU32
          have HSo := Lib.hid (size_hash (cs := bs o) (by rw [bs_size, ho32]))
          have HSr := Lib.hid (size_hash (cs := bs r) (by rw [bs_size, hr32]))
          have Ho := Lib.hid ho32
          have Hr := Lib.hid hr32
          have HoS := Lib.hid (show (bs o).size = 32 by rw [bs_size, ho32])
          have HrS := Lib.hid (show (bs r).size = 32 by rw [bs_size, hr32])
          have HSh := Lib.hid (size_hash (cs := bs h) (by rw [bs_size, hh]))
          obtain rfl : p = S := by omega
          clear hv hk hr hzz hz32 hh hS hp hn hSe hU ho hrr ho32 hr32 h2 h3 HZe
          go_enter Tryd.func69, Tryd.ntmps69
          go_upto_region 1 with fail
          refine world_cut (fun W => ShW w h W) HP.out ?_
          clear HP
          intro W1 hW1
          have HW1 := Lib.hid hW1
          clear hW1
          go_wp2_with fail
          refine (HSize.out _).mono ?_
          rintro e W2 ⟨rfl, rfl⟩
          go_wp2_with fail
          refine (HLen.out _).mono ?_
          rintro e W2 ⟨rfl, rfl⟩
          go_wp2_with (refine wpList_load_row rfl 24 (.tmp 8) rfl w.heap.size rfl 24 (bs h) (0, 0) _ HW1.out.1 Tryd.underlying24 rfl HSh.out ?_)
          refine (HShow.out _ HW1.out.2.2.2).mono ?_
          rintro e W3 ⟨rfl, hb3⟩
          have hW3 := HW1.out.keep hb3
          have HW3 := Lib.hid hW3
          have hg3 : w.heap.size + 2 < W3.heap.size := hW3.lt
          clear hW3 hb3 HShow HW1
          go_upto_region 7 with (first
            | (refine wpList_store_row rfl 24 (.tmp 14) (.tmp 43) rfl W3.heap.size (bs o) rfl rfl 24 _ ((Blk.new W3 _ _).alloc _) HSo.out (by rw [HoS.out]; rfl) (bs_one _) ?_)
            | (refine wpList_store_row rfl 24 (.tmp 15) (.tmp 44) rfl (W3.heap.size + 1) (bs r) rfl rfl 24 _ (Blk.rowOther (Blk.newAt _ _ _ _ _ (by simp) rfl) _ (by omega)) HSr.out (by rw [HrS.out]; rfl) (bs_one _) ?_))
          have hW4 : ShW w h ((((W3.alloc (.cells (bs (List.replicate 32 0)) 24)).alloc (.cells (bs (List.replicate 32 0)) 24)).setRow W3.heap.size (bs o)).setRow (W3.heap.size + 1) (bs r)) := HW3.out.keep (below_setRow (below_setRow (((Below.refl _ _).alloc (Nat.le_refl _) _).alloc (by simp) _) _ _ (Nat.le_refl _)) _ _ (by omega))
          refine world_cut (fun W => ShW w h W ∧ Blk W W3.heap.size 24 (bs o) ∧ Blk W (W3.heap.size + 1) 24 (bs r)) ⟨hW4, (Blk.row ((Blk.new W3 _ _).alloc _) (bs o)).rowOther _ (by omega), Blk.row (Blk.rowOther (Blk.newAt _ _ _ _ _ (by simp) rfl) _ (by omega)) (bs r)⟩ ?_
          rintro W4 hW4
          obtain ⟨gx, hgx⟩ : ∃ g, g = W3.heap.size := ⟨_, rfl⟩
          obtain ⟨gy, hgy⟩ : ∃ g, g = W3.heap.size + 1 := ⟨_, rfl⟩
          have hx3 : w.heap.size + 2 < gx := by omega
          have hy3 : w.heap.size + 2 < gy := by omega
          rw [← hgy, ← hgx] at hW4
          rw [← hgy, ← hgx]
          have HW4 := Lib.hid hW4
          clear hW4 hgx hgy hg3 HW3
          have hG : ∀ W W' : World, (ShW w h W ∧ Blk W gx 24 (bs o) ∧ Blk W gy 24 (bs r)) → Below W.heap.size W W' → (ShW w h W' ∧ Blk W' gx 24 (bs o) ∧ Blk W' gy 24 (bs r)) := fun W W' h h' => ⟨h.1.keep h', h.2.1.keep h', h.2.2.keep h'⟩
          refine region_rel_by 2 3 (fun _ _ => [(45, .is (.agg (bs o))), (46, .is (.agg (bs r))), (12, .is (.int .i64 0))]) [10, 11, 12] (fun W => ShW w h W ∧ Blk W gx 24 (bs o) ∧ Blk W gy 24 (bs r)) (Put2 2 3 (w.heap.size + 1) (w.heap.size + 2) 24 (bs o) (bs r)) (by kernel_rfl) (by kernel_rfl) (by kernel_rfl) (by kernel_rfl) (by kernel_rfl) (by decide) (by decide) (hG _ _ HW4.out (Below.refl _ _).drew) (put2_none _ _ _) ?_ ?_
          · refine ⟨?c0, ?c1, ?c2, ?c3, ?c4, trivial⟩
            case c0 => exact plain_put (by kernel_rfl) (fun Wx => ask_load (guard_none rfl) _ (.tmp 14) (.pointer (some ⟨gx, 0, none⟩)) (.agg (bs o)) rfl rfl (by intro k hk; cases hk; rfl) (fun W hW => (hW.1.2.1).loads 24 _ Tryd.underlying24 rfl HSo.out))
            case c1 => exact plain_put (by kernel_rfl) (fun Wx => ask_load (guard_none rfl) _ (.tmp 15) (.pointer (some ⟨gy, 0, none⟩)) (.agg (bs r)) rfl rfl (by intro k hk; cases hk; rfl) (fun W hW => (hW.1.2.2).loads 24 _ Tryd.underlying24 rfl HSr.out))
            case c4 => exact plain_put (by kernel_rfl) (fun Wx => ask_copy (guard_none rfl) (.const (.int .i64 0)) (.inr rfl) (by intro k hk; cases hk; rfl))
            case c2 => exact .inr (put2_p rfl 24 (.tmp 10) (.tmp 45) rfl rfl rfl rfl (by kernel_rfl) (by decide) (by omega) (fun W hW => hW.1.cur1 HoS.out) HSo.out (bs_one _) (fun W hW => ⟨hW.1.row1 _ HoS.out, hW.2.1.rowOther _ (by omega), hW.2.2.rowOther _ (by omega)⟩))
            case c3 => exact .inr (put2_q rfl 24 (.tmp 11) (.tmp 46) rfl rfl rfl rfl (by kernel_rfl) (by decide) (by omega) (fun W hW => hW.1.cur2 HrS.out) HSr.out (bs_one _) (fun W hW => ⟨hW.1.row2 _ HrS.out, hW.2.1.rowOther _ (by omega), hW.2.2.rowOther _ (by omega)⟩))
          · intro L a' W hall hW hr hd' hs' hf'
            have HA := Lib.hid (hr.1 (hall 2 (by decide)))
            have HBk := Lib.hid (hr.2 (hall 3 (by decide)))
            have t10 : a'.tmps.getD 10 undef = .pointer (some ⟨w.heap.size + 1, 0, none⟩) := hf' 10 rfl
            have t11 : a'.tmps.getD 11 undef = .pointer (some ⟨w.heap.size + 2, 0, none⟩) := hf' 11 rfl
            have t12 : a'.tmps.getD 12 undef = .int .i64 0 := hf' 12 rfl
            obtain ⟨us', hus, ha'⟩ := act_open 47 a' hs' hd'
            rw [← hus] at t10 t11 t12
            have el : ((List.range 47).map us').toArray = #[us' 0, us' 1, us' 2, us' 3, us' 4, us' 5, us' 6, us' 7, us' 8, us' 9, .pointer (some ⟨w.heap.size + 1, 0, none⟩), .pointer (some ⟨w.heap.size + 2, 0, none⟩), .int .i64 0, us' 13, us' 14, us' 15, us' 16, us' 17, us' 18, us' 19, us' 20, us' 21, us' 22, us' 23, us' 24, us' 25, us' 26, us' 27, us' 28, us' 29, us' 30, us' 31, us' 32, us' 33, us' 34, us' 35, us' 36, us' 37, us' 38, us' 39, us' 40, us' 41, us' 42, us' 43, us' 44, us' 45, us' 46] := by
              show #[us' 0, us' 1, us' 2, us' 3, us' 4, us' 5, us' 6, us' 7, us' 8, us' 9, us' 10, us' 11, us' 12, us' 13, us' 14, us' 15, us' 16, us' 17, us' 18, us' 19, us' 20, us' 21, us' 22, us' 23, us' 24, us' 25, us' 26, us' 27, us' 28, us' 29, us' 30, us' 31, us' 32, us' 33, us' 34, us' 35, us' 36, us' 37, us' 38, us' 39, us' 40, us' 41, us' 42, us' 43, us' 44, us' 45, us' 46] = _
              rw [t10, t11, t12]
            rw [el] at ha'
            subst ha'
            clear hus t10 t11 t12 el hf' hs' hd'
            go_wp2
            exact bodyPost_ret (v := .tuple #[.agg (bs o), .agg (bs r), .int .i64 0]) (ret_two_tmp rfl _ _ (w.heap.size + 1) (w.heap.size + 2) (bs o) (bs r) _ (by rw [bs_size, Ho.out]) (by rw [bs_size, Hr.out]) rfl rfl rfl HA.out HBk.out) rfl ⟨rfl, hW.1.2.2.2⟩
end Go.Proofs.YtdhfabjkpffhnaaDoor

/- Layer 16: the program's Check. -/
namespace Go.Proofs.YtdhfabjkpffhnaaDoor
set_option maxRecDepth 20000
open Go.RowKit ShaMath LeafMath PathMath GrowthMath Reg

end Go.Proofs.YtdhfabjkpffhnaaDoor

