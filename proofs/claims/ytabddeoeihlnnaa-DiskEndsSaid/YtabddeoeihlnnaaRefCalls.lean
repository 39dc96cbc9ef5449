/- The reference's New, Read. -/
import Derived.Test.YtabddeoeihlnnaaRefSt
namespace Go.Proofs.Ytabddeoeihlnnaa
open Go.RowKit Go.Maps DiskMath

theorem newr_any (w : World) (room : Int) : Calls Try.prog 11 #[.int .i64 room] w fun e w' => ∃ r, e = .returned (dp r) ∧ IsRef w' (fun k => w.heap.size ≤ k ∧ k < w'.heap.size) r 0 (St.new room) ∧ Below w.heap.size w w' := by
  go_enter Try.func11, Try.ntmps11
  go_wp2
  go_ret
  have hb : Below w.heap.size w (w.alloc (.cells #[.slice none 0 0, .slice none 0 0, .slice none 0 0, .int .i64 room, .int .i64 (-1), .bool false] 65)) := (Below.refl _ _).alloc (Nat.le_refl _) _
  refine ⟨w.heap.size, rfl, ⟨⟨.slice none 0 0, .slice none 0 0, .slice none 0 0, [], [], [], ?_, ?_⟩, fun k hk => hk.2⟩, hb⟩
  · exact {
      blk := by
        have e : rsC (St.new room) (.slice none 0 0) (.slice none 0 0) (.slice none 0 0) = #[.slice none 0 0, .slice none 0 0, .slice none 0 0, .int .i64 room, .int .i64 (-1), .bool false] := rfl
        rw [e]
        exact Blk.new w _ _
      f1 := fls_nil _
      p1 := rfl
      f2 := fls_nil _
      p2 := rfl
      ops := World.ownsRow_nil _ _ _ _
      text := fun p hp => by cases hp
      pw := rfl
      ok := ⟨rfl, List.Pairwise.nil, (fun p hp => by cases hp), (fun o ho => by cases ho), Nat.le_refl _⟩
      small := by omega
      fuse := by show -1 ≤ (-1 : Int) ∧ (-1 : Int) ≤ 9223372036854775807; omega }
  · intro k hk
    rcases hk with rfl | (hk | ⟨p, hp, _⟩) | (hk | ⟨p, hp, _⟩) | hk | ⟨p, hp, _⟩
    · exact ⟨by omega, by simp⟩
    · simp [Value.ownBlock] at hk
    · cases hp
    · simp [Value.ownBlock] at hk
    · cases hp
    · simp [Value.ownBlock] at hk
    · cases hp

theorem Rk.len {w : World} {r c : Nat} {s : St} {fv sv ov : Value} {F1 F2 : Gf} {G : Go8} (h : Rk w r c s fv sv ov F1 F2 G) : F1.length ≤ 2000 := by
  have h1 := h.ok.fewN
  rw [← h.p1, pr_length] at h1
  exact Nat.le_trans h1 h.small

set_option maxHeartbeats 1000000 in
theorem readr_any {w : World} {r c : Nat} {s : St} {fv sv ov : Value} {F1 F2 : Gf} {G : Go8} (h : Rk w r c s fv sv ov F1 F2 G) {n : Nm} :
    Calls Try.prog 14 #[dp r, nm n] w fun e w' => ∃ v, e = .returned (.tuple #[v, .int .i64 ((s.read n).1 : Int)]) ∧ Row w 0 v (s.read n).2 ∧ w = w' := by
  have c0 : w.cell? ⟨r, 0, none⟩ = some fv := by rw [Blk.cell h.blk]; rfl
  have c5 : w.cell? ⟨r, 5, none⟩ = some (.bool s.off) := by rw [Blk.cell h.blk]; rfl
  have HFind := Lib.hid (find_any (n := n) h.f1 (Nat.le_trans h.len (by decide)))
  have HF := Lib.hid h.f1
  have hp1 := h.p1
  obtain ⟨N, hN⟩ : ∃ N, nm n = .string N := ⟨_, rfl⟩
  rw [hN] at HFind ⊢
  obtain ⟨va, vc, hv⟩ := h.f1.slice
  subst hv
  obtain ⟨L, hL⟩ : ∃ L, L = F1.length := ⟨_, rfl⟩
  rw [← hL] at c0 HFind HF
  have HL := Lib.hid hL
  obtain ⟨y, hy⟩ : ∃ y, y = s.read n := ⟨_, rfl⟩
  rw [← hy]
  have HY := Lib.hid hy
  have HP1 := Lib.hid hp1
  clear h hp1 hN hL hy
  by_cases h1 : s.off = true
  · have ey : y = (6, []) := by rw [HY.out]; unfold St.read; rw [if_pos h1]
    subst ey
    rw [h1] at c5
    clear h1 HY
    go_enter Try.func14, Try.ntmps14
    go_wp2
    exact bodyPost_ret (v := .tuple #[.slice none 0 0, .int .i64 6]) (by simp [results, Try.results14, go_sem]) rfl ⟨_, rfl, row_nil _ _, rfl⟩
  have H1 := Lib.hid h1
  rw [show s.off = false by simpa using h1] at c5
  clear h1
  go_enter Try.func14, Try.ntmps14
  go_wp2_with fail
  refine HFind.out.mono ?_
  rintro e w' ⟨⟨i, rfl, hat⟩, rfl⟩
  rcases hat with ⟨rfl, hg⟩ | ⟨j, x, rfl, hj, hg⟩
  · have ey : y = (8, []) := by rw [HY.out]; unfold St.read; rw [if_neg H1.out, ← HP1.out, pr_get_none hg]
    subst ey
    clear hg HY
    go_wp2
    exact bodyPost_ret (v := .tuple #[.slice none 0 0, .int .i64 8]) (by simp [results, Try.results14, go_sem]) rfl ⟨_, rfl, row_nil _ _, rfl⟩
  · have ey : y = (0, x.2) := by rw [HY.out]; unfold St.read; rw [if_neg H1.out, ← HP1.out, pr_get_some hg]
    subst ey
    clear HY
    have hlt : j < L := by have := (List.getElem?_eq_some_iff.1 hj).1; have := HL.out; omega
    have hf := HF.out
    rw [HL.out] at hf
    obtain ⟨g, cap, e, hgl, -, c1⟩ := hf.cells j (n, x) hj
    simp at e
    obtain ⟨rfl, rfl⟩ := e
    have hxr : Row w 0 x.1 x.2 := hf.text (n, x) (List.mem_of_getElem? hj)
    obtain ⟨xa, xc, hx⟩ := slice_of_row hxr
    simp only at c1
    have HXr := Lib.hid hxr
    obtain ⟨xn, hxn⟩ : ∃ xn, xn = x.2.length := ⟨_, rfl⟩
    rw [← hxn] at hx
    rw [hx] at c1 HXr
    have hidx : ∀ W, (Instr.indexAt 62 (.slice (some ⟨g, 0, none⟩) L vc) (.int .i64 (j : Int))).run Try.prog W = .ok (.pointer (some ⟨g, j * 2, none⟩)) W := fun W => files_index W g L vc j hlt
    obtain ⟨J, hJ⟩ : ∃ J, J = j * 2 := ⟨_, rfl⟩
    rw [← hJ] at c1 hidx
    have i0 : (0 : Int) ≤ (j : Int) := Int.natCast_nonneg _
    clear hg hj hf hxr hx hxn hgl hJ
    go_wp2
    exact bodyPost_ret (v := .tuple #[.slice xa xn xc, .int .i64 0]) (by simp [results, Try.results14, go_sem]) rfl ⟨_, rfl, HXr.out, rfl⟩
end Go.Proofs.Ytabddeoeihlnnaa
