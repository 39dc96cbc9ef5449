/- Ranges: the reference's ones, Right, Hashes, Same, Peak. -/
import Derived.Test.YtdhfabjkpffhnabDoorKM
namespace Go.Proofs.YtdhfabjkpffhnabDoor
set_option maxRecDepth 20000
open Go.RowKit ShaMath LeafMath Reg

theorem ones_le : ∀ (j n : Nat), n < 2 ^ j → ones n ≤ j := by
  intro j
  induction j with
  | zero => intro n h; simp at h; subst h; rw [ones_zero]; exact Nat.le_refl _
  | succ j ih =>
    intro n h
    rw [Nat.pow_succ] at h
    have := ih (n / 2) (by omega)
    rw [ones_more]
    omega
theorem ones_64 (n : Nat) (h : n < 18446744073709551616) : ones n ≤ 64 := ones_le 64 n (by simpa using h)

def OnesAt (n : Nat) (w : World) (s0 s3 : Value) (wr : World) : Prop := ∃ m k : Nat, k + ones m = ones n ∧ m ≤ n ∧ s0 = .int .u64 (m : Int) ∧ s3 = .int .i64 (k : Int) ∧ wr = w

def HashesAt (hs hs' : List Hs) (w : World) (s : Value) (wr : World) : Prop := ∃ i : Nat, i ≤ hs.length ∧ s = .int .i64 (i : Int) ∧ hs.take i = hs'.take i ∧ Below w.heap.size w wr

theorem take_next {hs hs' : List Hs} {i : Nat} {x y : Hs} (h : hs.take i = hs'.take i) (hx : hs[i]? = some x) (hy : hs'[i]? = some y) (e : x = y) : hs.take (i + 1) = hs'.take (i + 1) := by
  obtain ⟨h1, e1⟩ := List.getElem?_eq_some_iff.1 hx
  obtain ⟨h2, e2⟩ := List.getElem?_eq_some_iff.1 hy
  rw [List.take_succ_eq_append_getElem h1, List.take_succ_eq_append_getElem h2, h, e1, e2, e]

set_option maxHeartbeats 1000000 in
set_option maxRecDepth 100000 in
theorem refhashes_any (v v' : Value) (hs hs' : List Hs) (w : World) (hv : Hss w v hs) (hv' : Hss w v' hs') (hl : hs.length ≤ 4398046511104) (hl' : hs'.length ≤ 4398046511104) :
    Calls Tryd.prog 16 #[v, v'] w fun e w' => e = .returned (.bool (decide (hs = hs'))) ∧ Below w.heap.size w w' := by
  obtain ⟨a, c, rfl, hc⟩ := hv.form
  obtain ⟨a', c', rfl, hc'⟩ := hv'.form
  have HV := Lib.hid hv
  have HV' := Lib.hid hv'
  obtain ⟨n, hn⟩ : ∃ n, n = hs.length := ⟨_, rfl⟩
  obtain ⟨m, hm⟩ : ∃ m, m = hs'.length := ⟨_, rfl⟩
  rw [← hn] at HV hl hc ⊢
  rw [← hm] at HV' hl' hc' ⊢
  have HN := Lib.hid hn
  have HM := Lib.hid hm
  clear hv hv' hn hm
  by_cases hnm : n = m
  · subst hnm
    have hstart : HashesAt hs hs' w (.int .i64 0) w := ⟨0, Nat.zero_le _, rfl, rfl, Below.refl _ _⟩
    have HS := Lib.hid hstart
    clear hstart
    go_enter Tryd.func16, Tryd.ntmps16
    go_wp2
    go_loopw [5] (fun s5 wr => HashesAt hs hs' w s5 wr) (fun s5 _ => n - (intOf s5).toNat)
    case atStart => exact HS.out
    case round =>
      obtain ⟨i, hi, rfl, heq, hb⟩ := hrel
      have hin : i ≤ n := by have := HN.out; omega
      have HB := Lib.hid hb
      have HEq := Lib.hid heq
      clear hi heq hb HS
      by_cases hlt : i < n
      · obtain ⟨x, hx⟩ : ∃ x, hs[i]? = some x := ⟨hs[i]'(by have := HN.out; omega), List.getElem?_eq_getElem _⟩
        obtain ⟨y, hy⟩ : ∃ y, hs'[i]? = some y := ⟨hs'[i]'(by have := HM.out; omega), List.getElem?_eq_getElem _⟩
        obtain ⟨ad, rfl, hcx⟩ := HV.out.load hx
        obtain ⟨ad', rfl, hcy⟩ := HV'.out.load hy
        have hx32 := HV.out.all.get hx
        have hy32 := HV'.out.all.get hy
        have HLx := Lib.hid (fun (W : World) (hW : Below w.heap.size w W) => load_hash W (ad.add (i * 32)) x hx32 fun j u hj => by
          obtain ⟨ad2, e, h⟩ := (HV.out.below (Nat.le_refl _) hW).load hx
          cases e
          exact h j u hj)
        have HLy := Lib.hid (fun (W : World) (hW : Below w.heap.size w W) => load_hash W (ad'.add (i * 32)) y hy32 fun j u hj => by
          obtain ⟨ad2, e, h⟩ := (HV'.out.below (Nat.le_refl _) hW).load hy
          cases e
          exact h j u hj)
        obtain ⟨b, hb⟩ : ∃ b, b = (x == y) := ⟨_, rfl⟩
        have HNeq := Lib.hid (fun s t W => neq_hash2 s t x y hx32 hy32 W)
        obtain ⟨cx, hcx'⟩ : ∃ cx, cx = bs x := ⟨_, rfl⟩
        obtain ⟨cy, hcy'⟩ : ∃ cy, cy = bs y := ⟨_, rfl⟩
        rw [← hcx', ← hcy', ← hb] at HNeq
        rw [← hcx'] at HLx
        rw [← hcy'] at HLy
        have HX := Lib.hid hx
        have HY := Lib.hid hy
        have HBb := Lib.hid hb
        clear hx hy hcx hcy hx32 hy32 hcx' hcy' hb
        go_upto_region 6 with fail
        refine region_by [(17, .is (.slice (some ad) n c)), (18, .is (.int .i64 (i : Int))), (19, .is (.pointer (some (ad.add (i * 32))))), (20, .is (.agg cx)), (21, .is (.slice (some ad') n c')), (22, .is (.int .i64 (i : Int))), (23, .is (.pointer (some (ad'.add (i * 32))))), (24, .is (.agg cy)), (25, .is (.bool (!b)))] [0, 1, 2, 3, 5, 6, 7, 8, 9, 10, 25] (fun W => Below w.heap.size w W)
          (by kernel_rfl) (by kernel_rfl) (by kernel_rfl) (by kernel_rfl) (by kernel_rfl) HB.out.drew ?_ ?_
        · refine ⟨?a0, ?a1, ?a2, ?a3, ?a4, ?a5, ?a6, ?a7, ?a8, trivial⟩
          case a0 => exact ask_copy (guard_none rfl) (.tmp 0) (.inl rfl) (by intro k hk; cases hk; rfl)
          case a1 => exact ask_copy (guard_none rfl) (.tmp 5) (.inl rfl) (by intro k hk; cases hk; rfl)
          case a2 => exact ask_idx (guard_none rfl) _ (.tmp 17) (.tmp 18) (.slice (some ad) n c) (.int .i64 (i : Int)) (.pointer (some (ad.add (i * 32)))) rfl rfl rfl (by intro k hk; cases hk; rfl) (fun W => hss_index W ad n c i hlt)
          case a3 => exact ask_load (guard_none rfl) _ (.tmp 19) (.pointer (some (ad.add (i * 32)))) (.agg cx) rfl rfl (by intro k hk; cases hk; rfl) (fun W hW => HLx.out W hW)
          case a4 => exact ask_copy (guard_none rfl) (.tmp 1) (.inl rfl) (by intro k hk; cases hk; rfl)
          case a5 => exact ask_copy (guard_none rfl) (.tmp 5) (.inl rfl) (by intro k hk; cases hk; rfl)
          case a6 => exact ask_idx (guard_none rfl) _ (.tmp 21) (.tmp 22) (.slice (some ad') n c') (.int .i64 (i : Int)) (.pointer (some (ad'.add (i * 32)))) rfl rfl rfl (by intro k hk; cases hk; rfl) (fun W => hss_index W ad' n c' i hlt)
          case a7 => exact ask_load (guard_none rfl) _ (.tmp 23) (.pointer (some (ad'.add (i * 32)))) (.agg cy) rfl rfl (by intro k hk; cases hk; rfl) (fun W hW => HLy.out W hW)
          case a8 => exact ask_bin (guard_none rfl) _ _ _ _ _ _ _ _ rfl rfl rfl (by intro k hk; cases hk; rfl) (HNeq.out _ _)
        · intro a' W hW hd' hs' hf'
          have t0 : a'.tmps.getD 0 undef = .slice (some ad) n c := hf' 0 rfl
          have t1 : a'.tmps.getD 1 undef = .slice (some ad') n c' := hf' 1 rfl
          have t2 : a'.tmps.getD 2 undef = undef := hf' 2 rfl
          have t3 : a'.tmps.getD 3 undef = undef := hf' 3 rfl
          have t6 : a'.tmps.getD 6 undef = .slice (some ad) n c := hf' 6 rfl
          have t7 : a'.tmps.getD 7 undef = .int .i64 (n : Int) := hf' 7 rfl
          have t8 : a'.tmps.getD 8 undef = .slice (some ad') n c' := hf' 8 rfl
          have t9 : a'.tmps.getD 9 undef = .int .i64 (n : Int) := hf' 9 rfl
          have t10 : a'.tmps.getD 10 undef = .bool false := hf' 10 rfl
          have t5 : a'.tmps.getD 5 undef = .int .i64 (i : Int) := hf' 5 rfl
          have t25 : a'.tmps.getD 25 undef = .bool (!b) := hf' 25 rfl
          obtain ⟨us', hus, ha'⟩ := act_open 26 a' hs' hd'
          rw [← hus] at t0 t1 t2 t3 t5 t6 t7 t8 t9 t10 t25
          have el : ((List.range 26).map us').toArray = #[.slice (some ad) n c, .slice (some ad') n c', undef, undef, us' 4, .int .i64 (i : Int), .slice (some ad) n c, .int .i64 (n : Int), .slice (some ad') n c', .int .i64 (n : Int), .bool false, us' 11, us' 12, us' 13, us' 14, us' 15, us' 16, us' 17, us' 18, us' 19, us' 20, us' 21, us' 22, us' 23, us' 24, .bool (!b)] := by
            show #[us' 0, us' 1, us' 2, us' 3, us' 4, us' 5, us' 6, us' 7, us' 8, us' 9, us' 10, us' 11, us' 12, us' 13, us' 14, us' 15, us' 16, us' 17, us' 18, us' 19, us' 20, us' 21, us' 22, us' 23, us' 24, us' 25] = _
            rw [t0, t1, t2, t3, t5, t6, t7, t8, t9, t10, t25]
          rw [el] at ha'
          subst ha'
          have HW := Lib.hid hW
          clear hus t0 t1 t2 t3 t5 t6 t7 t8 t9 t10 t25 el hf' hs' hd' hW HLx HLy HNeq
          cases b with
          | true =>
            go_wp2
            go_roundw
            case rel => exact ⟨i + 1, by have := HN.out; omega, by simp, take_next HEq.out HX.out HY.out (by have := HBb.out; simpa using this.symm), HW.out⟩
            case measure => simp [intOf]; omega
          | false =>
            go_wp2
            go_ret
            have hne : hs ≠ hs' := fun e => by
              have h1 := HX.out
              rw [e, HY.out] at h1
              have := HBb.out
              rw [Option.some.inj h1] at this
              simp at this
            exact ⟨by simp [hne], HW.out⟩
      · obtain rfl : i = n := by omega
        have hfin : hs = hs' := by
          have h := HEq.out
          rwa [List.take_of_length_le (by have := HN.out; omega), List.take_of_length_le (by have := HM.out; omega)] at h
        have HF := Lib.hid hfin
        clear hfin HEq
        go_wp2
        go_ret
        exact ⟨by simp [HF.out], HB.out⟩
  · have hne : hs ≠ hs' := fun e => hnm (by rw [HN.out, HM.out, e])
    have HNe := Lib.hid hne
    have hnm2 : ¬ (n : Int) = (m : Int) := by omega
    clear hne hnm
    go_enter Tryd.func16, Tryd.ntmps16
    go_wp2
    go_ret
    exact ⟨by simp [HNe.out], Below.refl _ _⟩
end Go.Proofs.YtdhfabjkpffhnabDoor

