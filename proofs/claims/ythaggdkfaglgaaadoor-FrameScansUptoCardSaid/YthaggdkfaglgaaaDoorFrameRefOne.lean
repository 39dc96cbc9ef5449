/- The reference's One. -/
import Derived.Test.YthaggdkfaglgaaaDoorFrameOne
import Derived.Test.YthaggdkfaglgaaaDoorRefRaw
namespace Go.Proofs.YthaggdkfaglgaaaDoor
set_option maxRecDepth 20000
open Go.RowKit FrameMath CrcMath BinMath

theorem neq_texts (s t : Operand) (x y : List UInt8) (W : World) : (do eqGuard .neq 9 s t (.string ⟨x.toArray⟩) (.string ⟨y.toArray⟩); binOp .neq 9 (.string ⟨x.toArray⟩) (.string ⟨y.toArray⟩) : Sem Value).run Tryd.prog W = .ok (.bool (!(x == y))) W := by
  simp [eqGuard, go_sem]

set_option maxHeartbeats 1000000 in
theorem refone_any (a : Option Addr) (len cap : Nat) (b : List UInt8) (w : World) (hb : Bys w (.slice a len cap) b) (hl : b.length = len) (hc : len ≤ cap) (hn : len ≤ 140737488351232) :
    Calls Tryd.prog 9 #[.slice a len cap] w (OneEnd w b) := by
  have HX := Lib.hid hb
  have HL := Lib.hid hl
  obtain ⟨Q, hQ⟩ : ∃ g, g = w.heap.size := ⟨_, rfl⟩
  obtain ⟨W2, hW2⟩ : ∃ W, W = w.alloc (.cells #[.slice a len cap, .int .i64 0, .int .i64 0] 48) := ⟨_, rfl⟩
  have HB2 := Lib.hid (show Below w.heap.size w W2 by rw [hW2]; exact (Below.refl _ _).alloc (Nat.le_refl _) _)
  have hrf : IsRef W2 Q w.heap.size a cap b 0 0 := by
    refine ⟨?_, Nat.zero_le _, by omega, ⟨by omega, fun hnone => ?_⟩, by omega, fun i hi => ?_⟩
    · rw [hW2, hQ, HL.out]
      exact heap_alloc_new w _
    · rcases hb with ⟨h1, h2⟩ | ⟨ad, cap', h1, h2⟩
      · injection h1
      · injection h1 with h1 _ _
        rw [h1] at hnone
        cases hnone
    · obtain ⟨ad, he, hc⟩ : ∃ ad, a = some ad ∧ w.cell? (ad.add i) = some (bv b[i]) := by
        rcases hb with ⟨h1, h2⟩ | ⟨ad, cap', h1, h2⟩
        · rw [h2] at hi; simp at hi
        · injection h1 with h1 _ _
          exact ⟨ad, h1, h2 i hi⟩
      have hlt := World.block_lt_of_cell? w _ hc
      refine ⟨ad, he, by rw [add_block] at hlt; exact hlt, ?_⟩
      rw [HB2.out.cell hlt]
      exact hc
  have hq := refRaw_any Q b 0 0 32768 ⟨by omega, by omega⟩ W2 hrf
  rw [show (32768 : Int).toNat = 32768 from rfl, textS_open, List.drop_zero] at hq
  have hQw : w.heap.size ≤ Q := by omega
  have hrs := HB2.out.size
  have hQn : Hid (Q = w.heap.size) := Lib.hid hQ
  have hWn : Hid (W2 = _) := Lib.hid hW2
  clear hb hl hrf
  cases hp : pText 32768 b with
  | error c =>
    rw [hp] at hq
    have HQ := Lib.hid hq
    have HO := Lib.hid (one_text_err hp)
    have hf := one_fault HO.out
    have hcne : ((c : Int) != 0) = true := by simp; omega
    clear hq hp hf
    go_enter Tryd.func9, Tryd.ntmps9
    go_wp2_with fail
    rw [← hW2, ← hQ]
    clear hW2 hQ hQn hWn
    refine HQ.out.mono ?_
    rintro e w2 ⟨ho, v, rfl, hr, hrf2⟩
    have HB3 := Lib.hid (HB2.out.trans (ho.below hQw hrs))
    clear ho hr hrf2 HQ
    go_wp2
    exact bodyPost_ret (v := .tuple #[.slice none 0 0, .int .i64 0, .int .i64 (c : Int)]) (by simp [results, Tryd.results9, go_sem]) rfl ⟨HB3.out, by rw [HO.out]⟩
  | ok x =>
    obtain ⟨t, u⟩ := x
    rw [hp] at hq
    simp only [Nat.zero_add] at hq
    have HQ := Lib.hid hq
    have HP := Lib.hid hp
    have hpre := pText_prefix hp
    have hul : u ≤ len := by have := HL.out; omega
    have HTl := Lib.hid hpre.2.1
    have HUl := Lib.hid (show u ≤ 32777 by
      have h1 := hpre.2.2.2
      have h2 := frameF_le t hpre.2.1
      rw [frameF, List.length_append, sealF_length] at h2
      omega)
    clear hq hp hpre
    go_enter Tryd.func9, Tryd.ntmps9
    go_wp2_with fail
    rw [← hW2, ← hQ]
    clear hW2 hQ hQn hWn
    refine HQ.out.mono ?_
    rintro e w2 ⟨ho, v6, rfl, hr, hrf2⟩
    have HB3 := Lib.hid (HB2.out.trans (ho.below hQw hrs))
    have HR := Lib.hid (row_lower hr hrs)
    have HF := Lib.hid hrf2
    have HLeft := Lib.hid (refLeft_any Q b u 0 w2 hrf2)
    obtain ⟨q, hq⟩ : ∃ q, q = b.length - u := ⟨_, rfl⟩
    rw [← hq] at HLeft
    have hqu : q + u = len := by have := HL.out; omega
    clear ho hr hrf2 HQ hq
    go_wp2_with fail
    refine HLeft.out.mono ?_
    rintro e w3 ⟨rfl, nq, rfl⟩
    have c1 : (w2.drewN nq).cell? ⟨Q, 1, none⟩ = some (.int .i64 (u : Int)) := HF.out.cells.2.1
    by_cases hsh : q < 4
    · have HO := Lib.hid (one_text_short HP.out (by have := HL.out; omega))
      go_wp2
      exact bodyPost_ret (v := .tuple #[.slice none 0 0, .int .i64 0, .int .i64 2]) (by simp [results, Tryd.results9, go_sem]) rfl ⟨below_dn HB3.out nq, by rw [HO.out]; rfl⟩
    have HO := Lib.hid (one_text HP.out (by have := HL.out; omega))
    have h3 := slice_to a len cap (u + 4) (by omega)
    have h4 := HX.out.take (u + 4) (by have := HL.out; omega)
    have e1 : ((u + 4 : Nat) : Int) = (u : Int) + 4 := by omega
    rw [e1] at h3
    obtain ⟨E, hE⟩ : ∃ E, E = u + 4 := ⟨_, rfl⟩
    obtain ⟨B, hB⟩ : ∃ B, B = b.take (u + 4) := ⟨_, rfl⟩
    obtain ⟨r, hr⟩ : ∃ r, r = (frameF t == B) := ⟨_, rfl⟩
    rw [← hE] at h3
    rw [← hB, ← hE] at h4
    rw [← hB, ← hr] at HO
    have HS2 := Lib.hid h3
    have HB := Lib.hid h4
    have Hr := Lib.hid hr
    have hu4 : u ≤ 32777 := HUl.out
    clear h3 h4 hr hB hE e1
    go_wp2
    have HB4 := Lib.hid (below_dn HB3.out nq)
    have HR4 := Lib.hid (show Row (w2.drewN nq) w.heap.size v6 t from HR.out)
    have hG : ∀ W W' : World, (Row W w.heap.size v6 t ∧ Below w.heap.size w W) → Below W.heap.size W W' → (Row W' w.heap.size v6 t ∧ Below w.heap.size w W') := fun W W' hW hb => ⟨hW.1.below hb, hW.2.trans (hb.mono hW.2.size)⟩
    refine region_by [(28, .is v6), (29, .row w.heap.size (frameF t)), (30, .is (.string ⟨(frameF t).toArray⟩)), (31, .is (.slice a len cap)), (32, .is (.int .i64 ((u : Int) + 4))), (33, .is (.slice a E cap)), (34, .is (.string ⟨B.toArray⟩)), (35, .is (.bool (!r)))] [6, 8, 35] (fun W => Row W w.heap.size v6 t ∧ Below w.heap.size w W) (by kernel_rfl) (by kernel_rfl) (by kernel_rfl) (by kernel_rfl) (by kernel_rfl) (hG _ _ ⟨HR4.out, HB4.out⟩ (Below.refl _ _).drew) ?_ ?_
    · refine ⟨?a0, ?a1, ?a2, ?a3, ?a4, ?a5, ?a6, ?a7, trivial⟩
      case a0 => exact ask_copy (guard_none rfl) (.tmp 6) (.inl rfl) (by intro k hk; cases hk; rfl)
      case a1 => exact ask_call hG (guard_none rfl) _ _ _ #[v6] (.row w.heap.size (frameF t)) rfl (by kernel_rfl) rfl rfl (by intro k hk; cases hk; rfl) (fun W hW => (refframe_any v6 t W hW.1.bys (by have := HTl.out; omega)).mono fun e w' h => by
          obtain ⟨v, h1, h2, h3⟩ := h
          exact ⟨v, h1, row_lower h2 hW.2.size, h3⟩)
      case a2 => exact ask_string (guard_none rfl) (.tmp 29) (frameF t) (.inr ⟨_, rfl⟩) rfl (by intro k hk; cases hk; rfl)
      case a3 => exact ask_copy (guard_none rfl) (.tmp 0) (.inl rfl) (by intro k hk; cases hk; rfl)
      case a4 => exact ask_copy (guard_none rfl) (.tmp 8) (.inl rfl) (by intro k hk; cases hk; rfl)
      case a5 => exact ask_slice (guard_none rfl) _ _ _ _ _ _ _ none (some (.int .i64 ((u : Int) + 4))) none rfl rfl rfl rfl rfl (by intro k hk; cases hk; rfl) HS2.out
      case a6 => exact ask_string_is (guard_none rfl) (.tmp 33) (.slice a E cap) B rfl (fun W hW => HB.out.below (Nat.le_refl _) hW.2) rfl (by intro k hk; cases hk; rfl)
      case a7 => exact ask_bin (guard_none rfl) _ _ _ _ _ _ _ _ rfl rfl rfl (by intro k hk; cases hk; rfl) (fun W => by rw [Hr.out]; exact neq_texts _ _ _ _ W)
    intro a2 W5 hW5 hd2 hs2 hf2
    have t6 : a2.tmps.getD 6 undef = v6 := hf2 6 rfl
    have t8 : a2.tmps.getD 8 undef = .int .i64 ((u : Int) + 4) := hf2 8 rfl
    have t35 : a2.tmps.getD 35 undef = .bool (!r) := hf2 35 rfl
    obtain ⟨us, hus, ha'⟩ := act_open 38 a2 hs2 hd2
    rw [← hus] at t6 t8 t35
    have el : ((List.range 38).map us).toArray = #[us 0, us 1, us 2, us 3, us 4, us 5, us 6, us 7, us 8, us 9, us 10, us 11, us 12, us 13, us 14, us 15, us 16, us 17, us 18, us 19, us 20, us 21, us 22, us 23, us 24, us 25, us 26, us 27, us 28, us 29, us 30, us 31, us 32, us 33, us 34, us 35, us 36, us 37] := rfl
    rw [el] at ha'
    subst ha'
    rw [t6, t8, t35]
    clear hus t6 t8 t35 el hf2 hs2 hd2
    have HW := Lib.hid hW5
    clear hW5 hG
    cases r with
    | false =>
      go_wp2
      exact bodyPost_ret (v := .tuple #[.slice none 0 0, .int .i64 0, .int .i64 3]) (by simp [results, Tryd.results9, go_sem]) rfl ⟨HW.out.2, by rw [HO.out]; rfl⟩
    | true =>
      go_wp2
      exact bodyPost_ret (v := .tuple #[v6, .int .i64 ((u : Int) + 4), .int .i64 0]) (by simp [results, Tryd.results9, go_sem]) rfl ⟨HW.out.2, by rw [HO.out]; exact ⟨v6, by congr 5, HW.out.1⟩⟩
end Go.Proofs.YthaggdkfaglgaaaDoor
