/- Open. -/
import Derived.Test.YthlnhphmbjkjkaaCellSet
namespace Go.Proofs.Ythlnhphmbjkjkaa
open Go.RowKit Go.Maps DiskMath CellMath BinMath Reg

theorem Open_arg {q : Nm} (hq : wnB q = false) (hl : q.length ≤ 9223372036854775807) (p : Option Addr) (w : World) :
    Calls Try.prog 12 #[.pointer p, nm q] w fun e w' => e = .returned (.tuple #[.pointer none, .int .i64 1]) ∧ w' = w := by
  have h := ownName_any q w hl
  rw [hq] at h
  have H := Lib.hid h
  clear h hq hl
  go_enter Try.func12, Try.ntmps12
  go_wp2_with fail
  refine H.out.mono ?_
  rintro e w' ⟨rfl, rfl⟩
  go_wp2
  go_ret2
  exact ⟨rfl, rfl⟩

/-- How Open ends. -/
def OpenEnd (w : World) (d : Nat) (q : Nm) (s : St) (e : Ending) (w' : World) : Prop :=
  Below w.heap.size w w' ∧ ((s.off = true ∧ e = .returned (.tuple #[.pointer none, .int .i64 6])) ∨
    (s.off = false ∧ ∃ x, e = .returned (.tuple #[.pointer (some ⟨x, 0, none⟩), .int .i64 0]) ∧ w.heap.size ≤ x ∧ IsCell w' x d q (tells q s.now) false))

set_option maxHeartbeats 1000000 in
set_option maxRecDepth 20000 in
theorem Open_any {w : World} {T : Nat → Prop} {d c : Nat} {q : Nm} {s : St} (hq : wn q) (hD : IsDisk w T d c s) (hsh : ∀ t, getA (nowN q) s.now = some t → t.length ≤ 140737488351232) :
    Calls Try.prog 12 #[dp d, nm q] w (OpenEnd w d q s) := by
  have hqb : wnB q = true := (wnB_wn q).2 hq
  have hn := ownName_any q w (by have := hq.2.1; omega)
  rw [hqb] at hn
  have HN := Lib.hid hn
  obtain ⟨Q, hQ⟩ : ∃ Q, nm q = .string Q := ⟨_, rfl⟩
  have hb0 : Below w.heap.size w (w.alloc (.cells #[dp d, .string Q, .int .u64 0, .int .u64 0, .bool false] 61)) := (Below.refl _ w).alloc (Nat.le_refl _) _
  have g0 : IsCell (w.alloc (.cells #[dp d, .string Q, .int .u64 0, .int .u64 0, .bool false] 61)) w.heap.size d q (0, 0) false := by
    unfold IsCell cC
    rw [hQ]
    exact Blk.new w _ _
  have hlen : q.length ≤ 1000 := by have := hq.2.1; omega
  have HP := Lib.hid (place_any g0 hlen)
  have HR := Lib.hid (read_any (hD.below hb0) (n := nowN q) (by have := (now_len hq).2; omega))
  obtain ⟨A, hA⟩ : ∃ A, nm (nowN q) = .string A := ⟨_, rfl⟩
  rw [hA] at HP HR
  rw [hQ] at HN ⊢
  have HQ := Lib.hid hQ
  have HB0 := Lib.hid hb0
  have HG0 := Lib.hid g0
  have HD := Lib.hid hD
  obtain ⟨C, hC⟩ : ∃ C, C = (s.read (nowN q)).1 := ⟨_, rfl⟩
  obtain ⟨L, hL⟩ : ∃ L, L = (s.read (nowN q)).2 := ⟨_, rfl⟩
  rw [← hC, ← hL] at HR
  have hcase : (s.off = true ∧ C = 6) ∨ (s.off = false ∧ C = 8 ∧ tells q s.now = (0, 0)) ∨ (s.off = false ∧ C = 0 ∧ tells q s.now = hardOf L ∧ L.length ≤ 140737488351232) := by
    unfold St.read at hC hL
    by_cases h : s.off = true
    · rw [if_pos h] at hC
      exact .inl ⟨h, hC⟩
    · rw [if_neg h] at hC hL
      have h' : s.off = false := by simpa using h
      cases hg : getA (nowN q) s.now with
      | none =>
        rw [hg] at hC
        exact .inr (.inl ⟨h', hC, by unfold tells; rw [hg]⟩)
      | some t =>
        rw [hg] at hC hL
        exact .inr (.inr ⟨h', hC, by unfold tells; rw [hg]; simp only at hL ⊢; rw [hL], by simp only at hL; rw [hL]; exact hsh t hg⟩)
  clear hqb hn hb0 g0 hlen hA hQ hD hC hL hsh
  go_enter Try.func12, Try.ntmps12
  go_wp2_with fail
  refine HN.out.mono ?_
  rintro e w' ⟨rfl, rfl⟩
  go_wp2_with fail
  refine HP.out.mono ?_
  rintro e w' ⟨rfl, rfl⟩
  go_wp2_with fail
  refine HR.out.mono ?_
  rintro e w2 ⟨v, rfl, hr, hb2⟩
  obtain ⟨va, vc, rfl⟩ := slice_of_row hr
  have HRow := Lib.hid hr
  have HB2 := Lib.hid (HB0.out.trans (hb2.mono HB0.out.size))
  have HG2 := Lib.hid (HG0.out.below hb2)
  clear hr hb2 HP HR HG0 HB0
  rcases hcase with ⟨h1, rfl⟩ | ⟨h1, rfl, h2⟩ | ⟨h1, rfl, h2, h3⟩
  · have H1 := Lib.hid h1
    clear h1
    go_wp2
    go_ret2
    exact ⟨HB2.out, .inl ⟨H1.out, rfl⟩⟩
  · have H1 := Lib.hid h1
    have H2 := Lib.hid h2
    clear h1 h2
    go_wp2
    go_ret2
    exact ⟨HB2.out, .inr ⟨H1.out, _, rfl, Nat.le_refl _, by rw [H2.out]; exact HG2.out⟩⟩
  · have H1 := Lib.hid h1
    have H2 := Lib.hid h2
    have H3 := Lib.hid h3
    clear h1 h2 h3
    go_wp2_with fail
    refine (hardIn_any _ _ _ L w2 HRow.out.bys H3.out).mono ?_
    rintro e w3 ⟨rfl, hb3⟩
    have hg3 := HG2.out.below hb3
    have HB3 := Lib.hid (HB2.out.trans (hb3.mono HB2.out.size))
    have HG3 := Lib.hid hg3
    obtain ⟨H, hH⟩ : ∃ H, H = hardOf L := ⟨_, rfl⟩
    have H2' := H2.out
    rw [← hH] at H2' ⊢
    have HT := Lib.hid H2'
    have k2 : w3.cell? ⟨w.heap.size, 2, none⟩ = some (.int .u64 0) := by rw [Blk.cell hg3]; rfl
    have k3 : w3.cell? ⟨w.heap.size, 3, none⟩ = some (.int .u64 0) := by rw [Blk.cell hg3]; rfl
    have f2 : w3.frozen? ⟨w.heap.size, 2, none⟩ = false := Blk.frozen hg3 2
    have f3 : w3.frozen? ⟨w.heap.size, 3, none⟩ = false := Blk.frozen hg3 3
    clear hb3 hg3 hH H2' H2
    obtain ⟨x, y⟩ := H
    go_wp2
    go_ret2
    exact ⟨(HB3.out.setCell (Nat.le_refl _) _).setCell (Nat.le_refl _) _, .inr ⟨H1.out, _, rfl, Nat.le_refl _, by rw [HT.out]; exact Blk.set (Blk.set HG3.out 2 _) 3 _⟩⟩

theorem ndown_any (w : World) : Calls Try.prog 17 #[.pointer none] w fun e w' => e = .returned (.bool true) ∧ w = w' := by
  go_enter Try.func17, Try.ntmps17
  go_wp2
  go_ret
  exact ⟨rfl, rfl⟩

theorem nread_any (n : Nm) (w : World) : Calls Try.prog 24 #[.pointer none, nm n] w fun e w' => e = .returned (.tuple #[.slice none 0 0, .int .i64 6]) ∧ w = w' := by
  go_enter Try.func24, Try.ntmps24
  go_wp2_with fail
  refine (ndown_any w).mono ?_
  rintro e w' ⟨rfl, rfl⟩
  go_wp2
  exact bodyPost_ret (v := .tuple #[.slice none 0 0, .int .i64 6]) (by simp [results, Try.results24, go_sem]) rfl ⟨rfl, rfl⟩

/-- The cell of a disk that is none. -/
theorem nOpen_any {q : Nm} (hq : wn q) (w : World) : Calls Try.prog 12 #[.pointer none, nm q] w fun e w' => e = .returned (.tuple #[.pointer none, .int .i64 6]) ∧ Below w.heap.size w w' := by
  have hqb : wnB q = true := (wnB_wn q).2 hq
  have hn := ownName_any q w (by have := hq.2.1; omega)
  rw [hqb] at hn
  have HN := Lib.hid hn
  obtain ⟨Q, hQ⟩ : ∃ Q, nm q = .string Q := ⟨_, rfl⟩
  have hb0 : Below w.heap.size w (w.alloc (.cells #[.pointer none, .string Q, .int .u64 0, .int .u64 0, .bool false] 61)) := (Below.refl _ w).alloc (Nat.le_refl _) _
  have hc1 : (w.alloc (.cells #[.pointer none, .string Q, .int .u64 0, .int .u64 0, .bool false] 61)).cell? ⟨w.heap.size, 1, none⟩ = some (nm q) := by rw [Blk.cell (Blk.new w _ _), hQ]; rfl
  have hlen : q.length ≤ 1000 := by have := hq.2.1; omega
  have HP := Lib.hid (place_cell hc1 hlen)
  obtain ⟨A, hA⟩ : ∃ A, nm (nowN q) = .string A := ⟨_, rfl⟩
  have HR := Lib.hid (nread_any (nowN q) (w.alloc (.cells #[.pointer none, .string Q, .int .u64 0, .int .u64 0, .bool false] 61)))
  rw [hA] at HP HR
  rw [hQ] at HN ⊢
  have HB0 := Lib.hid hb0
  clear hqb hn hb0 hlen hA hQ hc1 hq
  go_enter Try.func12, Try.ntmps12
  go_wp2_with fail
  refine HN.out.mono ?_
  rintro e w' ⟨rfl, rfl⟩
  go_wp2_with fail
  refine HP.out.mono ?_
  rintro e w' ⟨rfl, rfl⟩
  go_wp2_with fail
  refine HR.out.mono ?_
  rintro e w2 ⟨rfl, rfl⟩
  clear HP HR
  go_wp2
  go_ret2
  exact ⟨rfl, HB0.out⟩
end Go.Proofs.Ythlnhphmbjkjkaa
