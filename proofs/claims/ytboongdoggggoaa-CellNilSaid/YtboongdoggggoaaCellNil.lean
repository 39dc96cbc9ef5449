/- Names that are none, a disk that is none, a cell that is none. -/
import Derived.Test.YtboongdoggggoaaCellAwake
namespace Go.Proofs.Ytboongdoggggoaa
set_option maxRecDepth 20000
open Go.RowKit Go.Maps DiskMath SwapMath CellMath BinMath Reg

theorem open_named {q : Nm} (hq : q.length ≤ 9223372036854775807) {w w1 : World} {d : Nat} (hb : Below w.heap.size w w1) (hd : IsDisk w1 (fun k => w.heap.size ≤ k ∧ k < w1.heap.size) d 0 (St.new 200)) :
    Calls Try.prog 40 #[dp d, nm q] w1 fun e w' => ∃ p, e = .returned (.tuple #[.pointer p, .int .i64 (if wnB q = true then 0 else 1)]) ∧ Below w.heap.size w w' := by
  cases hw : wnB q with
  | false =>
    refine (cOpen_arg hw hq (some ⟨d, 0, none⟩) w1).mono ?_
    rintro e w' ⟨rfl, rfl⟩
    exact ⟨none, rfl, hb⟩
  | true =>
    have hop := cOpen_any ((wnB_wn q).1 hw) hd (by omega)
    rw [opA_new] at hop
    refine hop.mono ?_
    rintro e w2 (⟨h6, -⟩ | ⟨-, z, x, U, rfl, -, -, -, -, -, ho⟩)
    · exact absurd h6 (by decide)
    · exact ⟨_, rfl, hb.trans (ho.below (fun k hk h => by have := h.1; omega) hb.size)⟩

set_option maxHeartbeats 2000000 in
theorem cellNil_any {w : World} (S : ByteArray) (hS : S.size ≤ maxLen) (h : Hd) :
    Calls Try.prog 8 #[.string S, hv h] w fun e w' => e = .returned (.bool true) ∧ Below w.heap.size w w' := by
  obtain ⟨a, b⟩ := h
  obtain ⟨q, hq, hql⟩ : ∃ q, Value.string S = nm q ∧ q.length ≤ 9223372036854775807 := ⟨S.data.toList, nm_of S, by
    have h1 : S.data.toList.length = S.size := Array.length_toList
    rw [h1]; exact hS⟩
  have hnamed := fun w1 => rNamed_any q w1 hql
  rw [← hq] at hnamed
  have HNamed := Lib.hid hnamed
  have hop : ∀ (w w1 : World) (d : Nat), Below w.heap.size w w1 → IsDisk w1 (fun k => w.heap.size ≤ k ∧ k < w1.heap.size) d 0 (St.new 200) → Calls Try.prog 40 #[dp d, .string S] w1 fun e w' => ∃ p, e = .returned (.tuple #[.pointer p, .int .i64 (if wnB q = true then 0 else 1)]) ∧ Below w.heap.size w w' := fun w w1 d hb h1 => by
    rw [hq]
    exact open_named hql hb h1
  have HOp := Lib.hid hop
  have hb0 : Below w.heap.size w (w.alloc (.cells #[.int .u64 (a : Int), .int .u64 (b : Int)] 63)) := (Below.refl _ w).alloc (Nat.le_refl _) _
  have g0 : Blk (w.alloc (.cells #[.int .u64 (a : Int), .int .u64 (b : Int)] 63)) w.heap.size 63 #[.int .u64 (a : Int), .int .u64 (b : Int)] := Blk.new w _ _
  have HB0 := Lib.hid hb0
  have HG0 := Lib.hid g0
  clear hS hq hql hnamed hop hb0 g0
  go_enter Try.func8, Try.ntmps8
  go_wp2_with fail
  refine (cawake_any _).mono ?_
  rintro e w1 ⟨rfl, hb1⟩
  have HB1 := Lib.hid (HB0.out.trans (hb1.mono HB0.out.size))
  have HG1 := Lib.hid (HG0.out.keep hb1)
  clear hb1 HB0 HG0
  go_wp2_with fail
  refine (new_any w1 200).mono ?_
  rintro e w2 ⟨d, rfl, hd, hb2⟩
  have HD := Lib.hid hd
  have HBn := Lib.hid hb2
  clear hd hb2
  go_wp2_with fail
  refine (HOp.out w1 w2 d HBn.out HD.out).mono ?_
  rintro e w3 ⟨p, rfl, hb3⟩
  have HB3 := Lib.hid (HB1.out.trans (hb3.mono HB1.out.size))
  have HG3 := Lib.hid (HG1.out.keep hb3)
  clear hb3 HD HB1 HG1 HOp
  cases hw : wnB q with
  | true =>
    simp only [if_true]
    rw [hw] at HNamed
    clear hw
    go_wp2_with fail
    refine (ncOpen_any (q := [118, 111, 116, 101]) (by decide) w3).mono ?_
    rintro e w4 ⟨rfl, hb4⟩
    have hg4 := HG3.out.keep hb4
    have HB4 := Lib.hid (HB3.out.trans (hb4.mono HB3.out.size))
    have b0 : w4.cell? ⟨w.heap.size, 0, none⟩ = some (.int .u64 (a : Int)) := by rw [hg4.cell]; rfl
    have b1 : w4.cell? ⟨w.heap.size, 1, none⟩ = some (.int .u64 (b : Int)) := by rw [hg4.cell]; rfl
    clear hb4 hg4 HB3 HG3
    have hset := ncset_any (a, b) w4
    have HS := Lib.hid hset
    clear hset
    go_wp2_with fail
    refine (HNamed.out w4).mono ?_
    rintro e w4' ⟨rfl, rfl⟩
    go_wp2_with fail
    refine HS.out.mono ?_
    rintro e w5 ⟨rfl, hb5⟩
    have HB5 := Lib.hid (HB4.out.trans (hb5.mono HB4.out.size))
    clear hb5 HB4 b0 b1
    go_wp2_with fail
    refine (nget_any w5).mono ?_
    rintro e w6 ⟨rfl, hb6⟩
    have HB6 := Lib.hid (HB5.out.trans (hb6.mono HB5.out.size))
    clear hb6 HB5
    go_wp2
    go_ret
    exact ⟨rfl, HB6.out⟩
  | false =>
    simp only [Bool.false_eq_true, if_false]
    rw [hw] at HNamed
    clear hw
    go_wp2_with fail
    refine (ncOpen_any (q := [118, 111, 116, 101]) (by decide) w3).mono ?_
    rintro e w4 ⟨rfl, hb4⟩
    have hg4 := HG3.out.keep hb4
    have HB4 := Lib.hid (HB3.out.trans (hb4.mono HB3.out.size))
    have b0 : w4.cell? ⟨w.heap.size, 0, none⟩ = some (.int .u64 (a : Int)) := by rw [hg4.cell]; rfl
    have b1 : w4.cell? ⟨w.heap.size, 1, none⟩ = some (.int .u64 (b : Int)) := by rw [hg4.cell]; rfl
    clear hb4 hg4 HB3 HG3
    have hset := ncset_any (a, b) w4
    have HS := Lib.hid hset
    clear hset
    go_wp2_with fail
    refine (HNamed.out w4).mono ?_
    rintro e w4' ⟨rfl, rfl⟩
    go_wp2_with fail
    refine HS.out.mono ?_
    rintro e w5 ⟨rfl, hb5⟩
    have HB5 := Lib.hid (HB4.out.trans (hb5.mono HB4.out.size))
    clear hb5 HB4 b0 b1
    go_wp2_with fail
    refine (nget_any w5).mono ?_
    rintro e w6 ⟨rfl, hb6⟩
    have HB6 := Lib.hid (HB5.out.trans (hb6.mono HB5.out.size))
    clear hb6 HB5
    go_wp2
    go_ret
    exact ⟨rfl, HB6.out⟩
end Go.Proofs.Ytboongdoggggoaa
