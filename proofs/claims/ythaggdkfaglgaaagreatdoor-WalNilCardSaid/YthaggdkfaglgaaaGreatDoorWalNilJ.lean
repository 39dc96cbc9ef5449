/- A log that is nil, a disk that is nil, names that are none. -/
import Derived.Test.YthaggdkfaglgaaaGreatDoorJW5
namespace Go.Proofs.YthaggdkfaglgaaaGreatDoor
set_option maxRecDepth 20000
open Go.RowKit Go.Maps DiskMath WalMath FrameMath Reg

theorem open_named {q : Nm} (hq : q.length ≤ 9223372036854775807) {w w1 : World} {d : Nat} (hd : IsDisk w1 (fun k => w.heap.size ≤ k ∧ k < w1.heap.size) d 0 (St.new 100)) (hb1 : Below w.heap.size w w1) (ht : Tab w) (he : Err w) :
    Calls Tryz.prog 25 #[dp d, nm q] w1 fun e w' => ∃ p, e = .returned (.tuple #[.pointer p, .int .i64 (if wnB q = true then 0 else 1)]) ∧ Below w.heap.size w w' := by
  cases hw : wnB q with
  | false =>
    refine (Open_arg hw hq (some ⟨d, 0, none⟩) w1).mono ?_
    rintro e w' ⟨rfl, rfl⟩
    exact ⟨none, rfl, hb1⟩
  | true =>
    have h0 := tab_pos ht
    have h2 := err_lt he
    have hwn := (wnB_wn q).1 hw
    refine (Open_any (q := q) (f := 0) (lo := 0) (R := []) hw hd (by omega) rfl (may_nil q) (ht.below (Nat.le_refl _) hb1) (fun h => by omega) (he.below hb1) (fun h => by have := h.1; omega)).mono ?_
    rintro e w2 ⟨j, l, c1, hj, -, -, hc1, h⟩
    obtain rfl : j = 0 := by simpa using hj
    have hs : (openA q (St.new 100) 0 0).1 = 0 := rfl
    obtain ⟨-, rfl, hp⟩ := h.resolve_right (fun hh => hh.1 hs)
    exact ⟨_, rfl, hb1.trans (hp.only.below (fun k hk h => by omega) hb1.size)⟩

set_option maxHeartbeats 2000000 in
theorem walNil_any {w : World} (ht : Tab w) (he : Err w) (S : ByteArray) (hS : S.size ≤ maxLen) (n : Int) (hn : (Lit.int .u64 n).wf = true) (a : Option Addr) (len cap : Nat) :
    Calls Tryz.prog 6 #[.string S, .int .u64 n, .slice a len cap] w fun e w' => e = .returned (.bool true) ∧ Below w.heap.size w w' := by
  obtain ⟨q, hq, hql⟩ : ∃ q, Value.string S = nm q ∧ q.length ≤ 9223372036854775807 := ⟨S.data.toList, nm_of S, by
    have h1 : S.data.toList.length = S.size := Array.length_toList
    rw [h1]; exact hS⟩
  obtain ⟨m, rfl⟩ : ∃ m : Nat, n = (m : Int) := by
    have h1 : IntKind.u64.min ≤ n ∧ n ≤ IntKind.u64.max := by simpa [Lit.wf] using hn
    have h2 : (0 : Int) ≤ n := h1.1
    exact ⟨n.toNat, by omega⟩
  have HTab := Lib.hid ht
  have HErr := Lib.hid he
  have HQ := Lib.hid hq
  have HQL := Lib.hid hql
  have hnamed := fun w1 => rNamed_any q w1 hql
  rw [← hq] at hnamed
  have HNamed := Lib.hid hnamed
  have hop : ∀ (w w1 : World) (d : Nat), IsDisk w1 (fun k => w.heap.size ≤ k ∧ k < w1.heap.size) d 0 (St.new 100) → Below w.heap.size w w1 → Tab w → Err w → Calls Tryz.prog 25 #[dp d, .string S] w1 fun e w' => ∃ p, e = .returned (.tuple #[.pointer p, .int .i64 (if wnB q = true then 0 else 1)]) ∧ Below w.heap.size w w' := fun w w1 d h1 h2 h3 h4 => by
    rw [hq]
    exact open_named hql h1 h2 h3 h4
  have HOp := Lib.hid hop
  clear ht he hn hS hq hql hnamed hop
  go_enter Tryz.func6, Tryz.ntmps6
  go_wp2_with fail
  refine (wawake_any HTab.out HErr.out).mono ?_
  rintro e w1 ⟨rfl, hb1⟩
  have HB1 := Lib.hid hb1
  clear hb1
  go_wp2_with fail
  refine (nget_any m w1).mono ?_
  rintro e w1' ⟨rfl, rfl⟩
  go_wp2_with fail
  refine (new_any w1 100).mono ?_
  rintro e w2 ⟨d, rfl, hd, hb2⟩
  have HD := Lib.hid hd
  have HB2 := Lib.hid hb2
  clear hd hb2
  go_wp2_with fail
  refine (HOp.out w1 w2 d HD.out HB2.out (HTab.out.below (Nat.le_refl _) HB1.out) (HErr.out.below HB1.out)).mono ?_
  rintro e w3 ⟨p, rfl, hb3⟩
  have HB3 := Lib.hid (HB1.out.trans (hb3.mono HB1.out.size))
  clear hb3 HD HB2 HB1
  cases hw : wnB q with
  | true =>
    simp only [if_true]
    rw [hw] at HNamed
    clear HOp hw
    go_wp2_with fail
    refine (nOpen_any (q := [108, 111, 103]) (by decide) w3).mono ?_
    rintro e w4 ⟨rfl, hb4⟩
    have HB4 := Lib.hid (HB3.out.trans (hb4.mono HB3.out.size))
    clear hb4 HB3
    go_wp2_with fail
    refine (HNamed.out w4).mono ?_
    rintro e w4' ⟨rfl, rfl⟩
    go_wp2_with fail
    refine (nfirst_any w4).mono ?_
    rintro e w4' ⟨rfl, rfl⟩
    go_wp2_with fail
    refine (nnext_any w4).mono ?_
    rintro e w4' ⟨rfl, rfl⟩
    go_wp2_with fail
    refine (nappend_any a len cap w4).mono ?_
    rintro e w5 ⟨rfl, hb5⟩
    have HB5 := Lib.hid (HB4.out.trans (hb5.mono HB4.out.size))
    clear hb5 HB4
    go_wp2_with fail
    refine (nsync_any w5).mono ?_
    rintro e w6 ⟨rfl, hb6⟩
    have HB6 := Lib.hid (HB5.out.trans (hb6.mono HB5.out.size))
    clear hb6 HB5
    go_wp2_with fail
    refine (ncut_any m w6).mono ?_
    rintro e w7 ⟨rfl, hb7⟩
    have HB7 := Lib.hid (HB6.out.trans (hb7.mono HB6.out.size))
    clear hb7 HB6
    go_wp2_with fail
    refine (ntrim_any m w7).mono ?_
    rintro e w8 ⟨rfl, hb8⟩
    have HB8 := Lib.hid (HB7.out.trans (hb8.mono HB7.out.size))
    clear hb8 HB7
    go_wp2
    go_ret
    exact ⟨rfl, HB8.out⟩
  | false =>
    simp only [Bool.false_eq_true, if_false]
    rw [hw] at HNamed
    clear HOp hw
    go_wp2_with fail
    refine (nOpen_any (q := [108, 111, 103]) (by decide) w3).mono ?_
    rintro e w4 ⟨rfl, hb4⟩
    have HB4 := Lib.hid (HB3.out.trans (hb4.mono HB3.out.size))
    clear hb4 HB3
    go_wp2_with fail
    refine (HNamed.out w4).mono ?_
    rintro e w4' ⟨rfl, rfl⟩
    go_wp2_with fail
    refine (nfirst_any w4).mono ?_
    rintro e w4' ⟨rfl, rfl⟩
    go_wp2_with fail
    refine (nnext_any w4).mono ?_
    rintro e w4' ⟨rfl, rfl⟩
    go_wp2_with fail
    refine (nappend_any a len cap w4).mono ?_
    rintro e w5 ⟨rfl, hb5⟩
    have HB5 := Lib.hid (HB4.out.trans (hb5.mono HB4.out.size))
    clear hb5 HB4
    go_wp2_with fail
    refine (nsync_any w5).mono ?_
    rintro e w6 ⟨rfl, hb6⟩
    have HB6 := Lib.hid (HB5.out.trans (hb6.mono HB5.out.size))
    clear hb6 HB5
    go_wp2_with fail
    refine (ncut_any m w6).mono ?_
    rintro e w7 ⟨rfl, hb7⟩
    have HB7 := Lib.hid (HB6.out.trans (hb7.mono HB6.out.size))
    clear hb7 HB6
    go_wp2_with fail
    refine (ntrim_any m w7).mono ?_
    rintro e w8 ⟨rfl, hb8⟩
    have HB8 := Lib.hid (HB7.out.trans (hb8.mono HB7.out.size))
    clear hb8 HB7
    go_wp2
    go_ret
    exact ⟨rfl, HB8.out⟩
end Go.Proofs.YthaggdkfaglgaaaGreatDoor
