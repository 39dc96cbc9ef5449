/- sweep, Open. -/
import Derived.Test.YtboongdoggggoaaSwapPut
namespace Go.Proofs.Ytboongdoggggoaa
set_option maxRecDepth 20000
open Go.RowKit Go.Maps DiskMath SwapMath Reg

def swp (c : Nat) : Nat := if c = 8 then 0 else c

set_option maxHeartbeats 1000000 in
theorem sweep_any {w : World} {T : Nat → Prop} {x d c : Nat} {q : Nm} {s : St} {v0 : Value} {t0 o : Bool} (hq : wn q) (hD : IsDisk w T d c s) (hC : IsFile w x d q v0 t0 o) (hc : c + 1 ≤ 2000) :
    Calls Try.prog 109 #[.pointer (some ⟨x, 0, none⟩)] w fun e w' => e = .returned (.int .i64 (swp (s.remove (newN q)).1 : Int)) ∧ Next w T d (c + 1) (s.remove (newN q)).2 w' := by
  have hb1 : q.length ≤ 1000 := by have := hq.2.1; omega
  have hb2 : (newN q).length ≤ 9223372036854775807 := by have := (new_len hq).2; omega
  obtain ⟨Y, hY⟩ : ∃ Y, Y = (s.remove (newN q)).1 := ⟨_, rfl⟩
  obtain ⟨Z, hZ⟩ : ∃ Z, Z = (s.remove (newN q)).2 := ⟨_, rfl⟩
  have HR : Hid (∀ W, Below w.heap.size w W → Calls Try.prog 128 #[dp d, nm (newN q)] W fun e w' => e = .returned (.int .i64 (Y : Int)) ∧ Next W T d (c + 1) Z w') := fun W hW => by
    have h := remove_any (hD.below hW) hc hb2
    rw [← hY, ← hZ] at h
    exact h
  rw [← hY, ← hZ]
  obtain ⟨A, hA⟩ : ∃ A, nm (newN q) = .string A := ⟨_, rfl⟩
  have HBe : Hid (∀ W, IsFile W x d q v0 t0 o → Calls Try.prog 129 #[.pointer (some ⟨x, 0, none⟩)] W fun e w' => e = .returned (.string A) ∧ w' = W) := fun W hW => by rw [← hA]; exact beside_any hW hb1
  rw [hA] at HR
  have HC := Lib.hid hC
  have HLt := Lib.hid hD.lt
  have hGw : ∀ W W' : World, Below w.heap.size w W → Below W.heap.size W W' → Below w.heap.size w W' := fun W W' h h' => h.trans (h'.mono h.size)
  clear hq hD hC hc hb1 hb2 hY hZ hA
  go_enter Try.func109, Try.ntmps109
  go_upto_region 1 with fail
  refine region_tails_by 6 [(4, .is (.pointer (some ⟨x, 0, none⟩))), (5, .is (.pointer (some ⟨x, 0, none⟩))), (6, .is (.pointer (some ⟨x, 0, none⟩))), (7, .is (.pointer (some ⟨d, 0, none⟩))), (8, .is (.pointer (some ⟨x, 0, none⟩))), (9, .is (.string A))] [7, 9] (fun W => Below w.heap.size w W) (by kernel_rfl) (by kernel_rfl) (by kernel_rfl) (by kernel_rfl) (by kernel_rfl) (by decide) (by kernel_rfl) (by kernel_rfl) ((Below.refl _ _).drew) ?_ ?_
  · refine ⟨?c0, ?c1, ?c2, ?c3, ?c4, ?c5, trivial⟩
    case c0 => exact ask_copy (guard_none rfl) (.tmp 0) (.inl rfl) (by intro k hk; cases hk; rfl)
    case c1 => exact ask_exec (guard_none rfl) (.pointer (some ⟨x, 0, none⟩)) rfl rfl (by intro k hk; cases hk; rfl) (fun W hW => by kernel_rfl)
    case c2 => exact ask_field (guard_none rfl) _ (.tmp 5) 0 (.pointer (some ⟨x, 0, none⟩)) (.pointer (some ⟨x, 0, none⟩)) rfl rfl (by intro k hk; cases hk; rfl) (fun W => by kernel_rfl)
    case c3 => exact ask_load (guard_none rfl) _ (.tmp 6) (.pointer (some ⟨x, 0, none⟩)) (.pointer (some ⟨d, 0, none⟩)) rfl rfl (by intro k hk; cases hk; rfl) (fun W hW => load_dp W _ _ (by rw [hW.cell (p := ⟨x, 0, none⟩) (Blk.lt HC.out), (Blk.cell HC.out)]; rfl))
    case c4 => exact ask_copy (guard_none rfl) (.tmp 0) (.inl rfl) (by intro k hk; cases hk; rfl)
    case c5 => exact ask_call hGw (guard_none rfl) _ _ _ #[.pointer (some ⟨x, 0, none⟩)] (.is (.string A)) rfl (by kernel_rfl) rfl rfl (by intro k hk; cases hk; rfl) (fun W hW => (HBe.out W (HC.out.below hW)).mono fun e w' h => by obtain ⟨h1, rfl⟩ := h; exact ⟨_, h1, rfl, Below.refl _ _⟩)
  · intro af W1 hW hd' hs' hf'
    have t7 : af.tmps.getD 7 undef = .pointer (some ⟨d, 0, none⟩) := hf' 7 rfl
    have t9 : af.tmps.getD 9 undef = .string A := hf' 9 rfl
    obtain ⟨us, hus, haf⟩ := act_open 14 af hs' hd'
    rw [← hus] at t7 t9
    have el : ((List.range 14).map us).toArray = #[us 0, us 1, us 2, us 3, us 4, us 5, us 6, us 7, us 8, us 9, us 10, us 11, us 12, us 13] := rfl
    rw [el] at haf
    subst haf
    rw [t7, t9]
    have HB1 := Lib.hid hW
    clear hus t7 t9 el hf' hs' hd' hW
    simp only [List.drop_succ_cons, List.drop_zero]
    go_wp2_with fail
    refine (HR.out W1 HB1.out).mono ?_
    rintro e w2 ⟨rfl, hnx⟩
    have hnx := Next.pre HB1.out HLt.out hnx
    have HN := Lib.hid hnx
    clear hnx HR
    by_cases h8 : Y = 8
    · subst h8
      go_wp2
      go_ret
      exact ⟨rfl, HN.out⟩
    · have hz : ((Y : Int) == 8) = false := by simp; omega
      have hs : swp Y = Y := by unfold swp; rw [if_neg h8]
      have HS := Lib.hid hs
      clear h8 hs
      go_wp2
      go_ret
      exact ⟨by rw [HS.out]; rfl, HN.out⟩

theorem Open_arg {q : Nm} (hq : wnB q = false) (hl : q.length ≤ 9223372036854775807) (p : Option Addr) (w : World) :
    Calls Try.prog 81 #[.pointer p, nm q] w fun e w' => e = .returned (.tuple #[.pointer none, .int .i64 1]) ∧ w' = w := by
  have h := ownName_any q w hl
  rw [hq] at h
  have H := Lib.hid h
  clear h hq hl
  go_enter Try.func81, Try.ntmps81
  go_wp2_with fail
  refine H.out.mono ?_
  rintro e w' ⟨rfl, rfl⟩
  go_wp2
  go_ret2
  exact ⟨rfl, rfl⟩

theorem IsDisk.text_short {w : World} {T : Nat → Prop} {d c : Nat} {s : St} (h : IsDisk w T d c s) {n : Nm} {t : List UInt8} (hg : getA n s.now = some t) : t.length ≤ 8388608 := by
  obtain ⟨m1, m2, F1, F2, ws, G, hd, ht⟩ := h.ex
  exact (hd.ok.fitN _ (getA_mem hg)).2

theorem IsDisk.small {w : World} {T : Nat → Prop} {d c : Nat} {s : St} (h : IsDisk w T d c s) : c ≤ 2000 := by
  obtain ⟨m1, m2, F1, F2, ws, G, hd, ht⟩ := h.ex
  exact hd.small

/-- How Open ends. -/
def OpenEnd (w : World) (T : Nat → Prop) (d c : Nat) (q : Nm) (t : Tx) (Y : Nat) (Z : St) (e : Ending) (w' : World) : Prop :=
  (Y = 6 ∧ e = .returned (.tuple #[.pointer none, .int .i64 6]) ∧ Next w T d c Z w') ∨
  (Y = 0 ∧ ∃ x, e = .returned (.tuple #[.pointer (some ⟨x, 0, none⟩), .int .i64 0]) ∧ w.heap.size ≤ x ∧ Sw w' (more w T w') x d c q Z t false ∧ OnlyS T w w')

/-- What is left behind the look at the text. -/
theorem open_end {w W w' : World} {T : Nat → Prop} {x d c : Nat} {q : Nm} {Z : St} {v : Value} {t : Tx} (hb : Below w.heap.size w W) (hlt : ∀ k, T k → k < w.heap.size) (hx : w.heap.size ≤ x) (hf : IsFile W x d q v t.isSome false)
    (hr : Row W w.heap.size v (t.getD [])) (hs : (t.getD []).length ≤ 8388608) (hn : Next W T d c Z w') : Sw w' (more w T w') x d c q Z t false ∧ OnlyS T w w' := by
  have hxT : ¬ T x := fun h => by have := hlt x h; omega
  have hsz := hn.only.size
  have hbs := hb.size
  refine ⟨⟨⟨more W T w', v, hn.disk, hn.isFile hf hxT, row_lower (hr.same fun k hk => hn.only.block k (hr.lt hk).2 fun hT => ?_) (Nat.zero_le _), more_not hxT hf.lt, fun k hk => ⟨more_not (fun hT => ?_) (hr.lt hk).2, .inr ⟨(hr.lt hk).1, ?_⟩⟩, fun k hk => ?_⟩, .inr ⟨hx, ?_⟩, fun k hk => ?_, hs⟩, (OnlyS.of_below (S := T) hb fun k hk _ => hk).trans hn.only⟩
  · have := hlt k hT; have := (hr.lt hk).1; omega
  · have := hlt k hT; have := (hr.lt hk).1; omega
  · have := (hr.lt hk).2; omega
  · rcases hk with h1 | h1
    · exact .inl h1
    · exact .inr ⟨by omega, h1.2⟩
  · have := hf.lt; omega
  · rcases hk with h1 | h1
    · have := hlt k h1; omega
    · exact h1.2

set_option maxHeartbeats 2000000 in
theorem swOpen_any {w : World} {T : Nat → Prop} {d c : Nat} {q : Nm} {s : St} (hq : wn q) (hD : IsDisk w T d c s) (hc : c + 1 ≤ 2000) :
    Calls Try.prog 81 #[dp d, nm q] w (OpenEnd w T d (c + 1) q (getA (nowN q) s.now) (opA q s).1 (opA q s).2) := by
  have hqb : wnB q = true := (wnB_wn q).2 hq
  have hn := ownName_any q w (by have := hq.2.1; omega)
  rw [hqb] at hn
  have HN := Lib.hid hn
  obtain ⟨Q, hQ⟩ : ∃ Q, nm q = .string Q := ⟨_, rfl⟩
  have hb0 : Below w.heap.size w (w.alloc (.cells #[dp d, .string Q, .slice none 0 0, .bool false, .bool false] 159)) := (Below.refl _ w).alloc (Nat.le_refl _) _
  have g0 : IsFile (w.alloc (.cells #[dp d, .string Q, .slice none 0 0, .bool false, .bool false] 159)) w.heap.size d q (.slice none 0 0) false false := by
    unfold IsFile fC
    rw [hQ]
    exact Blk.new w _ _
  have hlen : q.length ≤ 1000 := by have := hq.2.1; omega
  have HP := Lib.hid (place_any g0 hlen)
  have HR := Lib.hid (read_any (hD.below hb0) (n := nowN q) (by have := (now_len hq).2; omega))
  obtain ⟨A, hA⟩ : ∃ A, nm (nowN q) = .string A := ⟨_, rfl⟩
  rw [hA] at HP HR
  have HSw : Hid (∀ W v t, IsDisk W T d c s → IsFile W w.heap.size d q v t false → Calls Try.prog 109 #[.pointer (some ⟨w.heap.size, 0, none⟩)] W fun e w' => e = .returned (.int .i64 (swp (s.remove (newN q)).1 : Int)) ∧ Next W T d (c + 1) (s.remove (newN q)).2 w') := fun W v t h1 h2 => sweep_any hq h1 h2 hc
  obtain ⟨Y, hY⟩ : ∃ Y, Y = (s.remove (newN q)).1 := ⟨_, rfl⟩
  obtain ⟨Z, hZ⟩ : ∃ Z, Z = (s.remove (newN q)).2 := ⟨_, rfl⟩
  rw [← hY, ← hZ] at HSw
  have hop1 : s.off = true → opA q s = (6, s) := fun h => by unfold opA; rw [if_pos h]
  have hop2 : s.off = false → opA q s = if Y = 0 ∨ Y = 8 then (0, Z) else (6, Z) := fun h => by unfold opA; rw [if_neg (by simp [h]), hY, hZ]
  obtain ⟨oY, hoY⟩ : ∃ oY, oY = (opA q s).1 := ⟨_, rfl⟩
  obtain ⟨oZ, hoZ⟩ : ∃ oZ, oZ = (opA q s).2 := ⟨_, rfl⟩
  have hopE : opA q s = (oY, oZ) := by rw [hoY, hoZ]
  rw [← hoY, ← hoZ]
  rw [hopE] at hop1 hop2
  have HO1 := Lib.hid hop1
  have HO2 := Lib.hid hop2
  have hxT : ¬ T w.heap.size := fun h => Nat.lt_irrefl _ (hD.lt _ h)
  rw [hQ] at HN ⊢
  have HQ := Lib.hid hQ
  have HB0 := Lib.hid hb0
  have HG0 := Lib.hid g0
  have HD := Lib.hid hD
  have HXT := Lib.hid hxT
  have HCc := Lib.hid hc
  obtain ⟨C, hC⟩ : ∃ C, C = (s.read (nowN q)).1 := ⟨_, rfl⟩
  obtain ⟨L, hL⟩ : ∃ L, L = (s.read (nowN q)).2 := ⟨_, rfl⟩
  rw [← hC, ← hL] at HR
  obtain ⟨tt, htt⟩ : ∃ tt, tt = getA (nowN q) s.now := ⟨_, rfl⟩
  rw [← htt]
  have hcase : (s.off = true ∧ C = 6) ∨ (s.off = false ∧ C = 8 ∧ tt = none) ∨ (s.off = false ∧ C = 0 ∧ tt = some L ∧ L.length ≤ 8388608) := by
    unfold St.read at hC hL
    by_cases h : s.off = true
    · rw [if_pos h] at hC
      exact .inl ⟨h, hC⟩
    · rw [if_neg h] at hC hL
      have h' : s.off = false := by simpa using h
      cases hg : getA (nowN q) s.now with
      | none =>
        rw [hg] at hC htt
        exact .inr (.inl ⟨h', hC, htt⟩)
      | some t =>
        rw [hg] at hC hL htt
        exact .inr (.inr ⟨h', hC, by rw [htt, hL], by simp only at hL; rw [hL]; exact hD.text_short hg⟩)
  clear hqb hn hb0 g0 hlen hA hQ hD hC hL hc hop1 hop2 hoY hoZ hopE hxT hY hZ htt hq
  go_enter Try.func81, Try.ntmps81
  go_wp2_with fail
  refine HN.out.mono ?_
  rintro e w' ⟨rfl, rfl⟩
  go_wp2_with fail
  refine HP.out.mono ?_
  rintro e w' ⟨rfl, rfl⟩
  go_wp2_with fail
  refine HR.out.mono ?_
  rintro e w2 ⟨v, rfl, hr, hb2⟩
  obtain ⟨va, vc, rfl⟩ := slice_of_row hr
  have HRow := Lib.hid hr
  have HB2 := Lib.hid (HB0.out.trans (hb2.mono HB0.out.size))
  have HG2 := Lib.hid (HG0.out.below hb2)
  clear hr hb2 HP HR HG0
  rcases hcase with ⟨h1, rfl⟩ | ⟨h1, rfl, h2⟩ | ⟨h1, rfl, h2, h3⟩
  · have h4 := HO1.out h1
    obtain ⟨rfl, rfl⟩ := Prod.mk.inj h4
    clear h1 h4
    go_wp2
    go_ret2
    exact .inl ⟨rfl, rfl, Next.mono (Next.post (Next.refl HD.out) HB2.out) (Nat.le_succ _) HCc.out⟩
  · have H1 := Lib.hid h1
    have hrow0 : Row w2 w.heap.size (.slice none 0 0) ((none : Tx).getD []) := World.ownsRow_nil _ _ _ _
    subst h2
    clear h1 HRow
    go_wp2_with fail
    refine (HSw.out w2 _ _ (HD.out.below HB2.out) HG2.out).mono ?_
    rintro e w3 ⟨rfl, hnx⟩
    have hend := open_end (t := none) HB2.out HD.out.lt (Nat.le_refl _) HG2.out hrow0 (by simp) hnx
    have HEnd := Lib.hid hend
    have HNx := Lib.hid (Next.pre HB2.out HD.out.lt hnx)
    clear hnx hend hrow0
    by_cases hy : Y = 0 ∨ Y = 8
    · have h4 := HO2.out H1.out
      rw [if_pos hy] at h4
      obtain ⟨rfl, rfl⟩ := Prod.mk.inj h4
      have e0 : ((swp Y : Nat) : Int) = 0 := by rcases hy with rfl | rfl <;> rfl
      rw [e0]
      clear hy h4 e0
      go_wp2
      go_ret2
      exact .inr ⟨rfl, _, rfl, Nat.le_refl _, HEnd.out.1, HEnd.out.2⟩
    · have h4 := HO2.out H1.out
      rw [if_neg hy] at h4
      obtain ⟨rfl, rfl⟩ := Prod.mk.inj h4
      have e0 : swp Y = Y := by unfold swp; rw [if_neg (by omega)]
      have hz : ((Y : Int) != 0) = true := by simp; omega
      rw [e0]
      clear hy h4 e0
      go_wp2
      go_ret2
      exact .inl ⟨rfl, rfl, HNx.out⟩
  · have H1 := Lib.hid h1
    have H3 := Lib.hid h3
    have k2 : w2.cell? ⟨w.heap.size, 2, none⟩ = some (.slice none 0 0) := by rw [Blk.cell HG2.out]; rfl
    have k3 : w2.cell? ⟨w.heap.size, 3, none⟩ = some (.bool false) := by rw [Blk.cell HG2.out]; rfl
    have f2 : w2.frozen? ⟨w.heap.size, 2, none⟩ = false := Blk.frozen HG2.out 2
    have f3 : w2.frozen? ⟨w.heap.size, 3, none⟩ = false := Blk.frozen HG2.out 3
    obtain ⟨ln, hln⟩ : ∃ ln, ln = L.length := ⟨_, rfl⟩
    rw [← hln] at HRow ⊢
    subst h2
    have hg3 : IsFile ((w2.setCell ⟨w.heap.size, 2, none⟩ (.slice va ln vc)).setCell ⟨w.heap.size, 3, none⟩ (.bool true)) w.heap.size d q (.slice va ln vc) (some L).isSome false := Blk.set (Blk.set HG2.out 2 _) 3 _
    have hbb : Below w.heap.size w ((w2.setCell ⟨w.heap.size, 2, none⟩ (.slice va ln vc)).setCell ⟨w.heap.size, 3, none⟩ (.bool true)) := (HB2.out.setCell (Nat.le_refl _) _).setCell (Nat.le_refl _) _
    have hrow3 : Row ((w2.setCell ⟨w.heap.size, 2, none⟩ (.slice va ln vc)).setCell ⟨w.heap.size, 3, none⟩ (.bool true)) w.heap.size (.slice va ln vc) ((some L).getD []) := by
      refine row_lower (HRow.out.same fun k hk => ?_) (by simp)
      have h5 := (HRow.out.lt hk).1
      have h6 : k ≠ w.heap.size := fun e => by simp at h5; omega
      rw [heap_set_other h6, heap_set_other h6]
    have HG3 := Lib.hid hg3
    have HBB := Lib.hid hbb
    have HRow3 := Lib.hid hrow3
    clear h1 h3 hg3 hbb hrow3 hln
    go_wp2_with fail
    refine (HSw.out _ _ _ (HD.out.below HBB.out) HG3.out).mono ?_
    rintro e w3 ⟨rfl, hnx⟩
    have hend := open_end (t := some L) HBB.out HD.out.lt (Nat.le_refl _) HG3.out HRow3.out H3.out hnx
    have HEnd := Lib.hid hend
    have HNx := Lib.hid (Next.pre HBB.out HD.out.lt hnx)
    clear hnx hend k2 k3 f2 f3
    by_cases hy : Y = 0 ∨ Y = 8
    · have h4 := HO2.out H1.out
      rw [if_pos hy] at h4
      obtain ⟨rfl, rfl⟩ := Prod.mk.inj h4
      have e0 : ((swp Y : Nat) : Int) = 0 := by rcases hy with rfl | rfl <;> rfl
      rw [e0]
      clear hy h4 e0
      go_wp2
      go_ret2
      exact .inr ⟨rfl, _, rfl, Nat.le_refl _, HEnd.out.1, HEnd.out.2⟩
    · have h4 := HO2.out H1.out
      rw [if_neg hy] at h4
      obtain ⟨rfl, rfl⟩ := Prod.mk.inj h4
      have e0 : swp Y = Y := by unfold swp; rw [if_neg (by omega)]
      have hz : ((Y : Int) != 0) = true := by simp; omega
      rw [e0]
      clear hy h4 e0
      go_wp2
      go_ret2
      exact .inl ⟨rfl, rfl, HNx.out⟩

theorem ndown_any (w : World) : Calls Try.prog 73 #[.pointer none] w fun e w' => e = .returned (.bool true) ∧ w = w' := by
  go_enter Try.func73, Try.ntmps73
  go_wp2
  go_ret
  exact ⟨rfl, rfl⟩

theorem nread_any (n : Nm) (w : World) : Calls Try.prog 107 #[.pointer none, nm n] w fun e w' => e = .returned (.tuple #[.slice none 0 0, .int .i64 6]) ∧ w = w' := by
  go_enter Try.func107, Try.ntmps107
  go_wp2_with fail
  refine (ndown_any w).mono ?_
  rintro e w' ⟨rfl, rfl⟩
  go_wp2
  exact bodyPost_ret (v := .tuple #[.slice none 0 0, .int .i64 6]) (by simp [results, Try.results107, go_sem]) rfl ⟨rfl, rfl⟩

/-- The file of a disk that is none. -/
theorem nOpen_any {q : Nm} (hq : wn q) (w : World) : Calls Try.prog 81 #[.pointer none, nm q] w fun e w' => e = .returned (.tuple #[.pointer none, .int .i64 6]) ∧ Below w.heap.size w w' := by
  have hqb : wnB q = true := (wnB_wn q).2 hq
  have hn := ownName_any q w (by have := hq.2.1; omega)
  rw [hqb] at hn
  have HN := Lib.hid hn
  obtain ⟨Q, hQ⟩ : ∃ Q, nm q = .string Q := ⟨_, rfl⟩
  have hb0 : Below w.heap.size w (w.alloc (.cells #[.pointer none, .string Q, .slice none 0 0, .bool false, .bool false] 159)) := (Below.refl _ w).alloc (Nat.le_refl _) _
  have hc1 : (w.alloc (.cells #[.pointer none, .string Q, .slice none 0 0, .bool false, .bool false] 159)).cell? ⟨w.heap.size, 1, none⟩ = some (nm q) := by rw [Blk.cell (Blk.new w _ _), hQ]; rfl
  have hlen : q.length ≤ 1000 := by have := hq.2.1; omega
  have HP := Lib.hid (place_cell hc1 hlen)
  obtain ⟨A, hA⟩ : ∃ A, nm (nowN q) = .string A := ⟨_, rfl⟩
  have HR := Lib.hid (nread_any (nowN q) (w.alloc (.cells #[.pointer none, .string Q, .slice none 0 0, .bool false, .bool false] 159)))
  rw [hA] at HP HR
  rw [hQ] at HN ⊢
  have HB0 := Lib.hid hb0
  clear hqb hn hb0 hlen hA hQ hc1 hq
  go_enter Try.func81, Try.ntmps81
  go_wp2_with fail
  refine HN.out.mono ?_
  rintro e w' ⟨rfl, rfl⟩
  go_wp2_with fail
  refine HP.out.mono ?_
  rintro e w' ⟨rfl, rfl⟩
  go_wp2_with fail
  refine HR.out.mono ?_
  rintro e w2 ⟨rfl, rfl⟩
  clear HP HR
  go_wp2
  go_ret2
  exact ⟨rfl, HB0.out⟩
end Go.Proofs.Ytboongdoggggoaa
