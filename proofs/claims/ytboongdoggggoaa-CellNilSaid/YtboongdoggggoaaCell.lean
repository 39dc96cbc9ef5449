/- A cell: Open, Get, Set. -/
import Derived.Test.YtboongdoggggoaaCellText
namespace Go.Proofs.Ytboongdoggggoaa
set_option maxRecDepth 20000
open Go.RowKit Go.Maps DiskMath SwapMath CellMath BinMath Reg

/-- A cell in memory: its file. -/
abbrev IsC (w : World) (z x : Nat) : Prop := Blk w z 130 #[.pointer (some ⟨x, 0, none⟩)]

/-- How Open ends. -/
def COpenEnd (w : World) (T : Nat → Prop) (d c : Nat) (q : Nm) (t : Tx) (Y : Nat) (Z : St) (e : Ending) (w' : World) : Prop :=
  (Y = 6 ∧ e = .returned (.tuple #[.pointer none, .int .i64 6]) ∧ Next w T d c Z w') ∨
  (Y = 0 ∧ ∃ z x U, e = .returned (.tuple #[.pointer (some ⟨z, 0, none⟩), .int .i64 0]) ∧ w.heap.size ≤ z ∧ Sw w' U x d c q Z t false ∧ ¬ U z ∧ (∀ k, U k → T k ∨ w.heap.size ≤ k) ∧ IsC w' z x ∧ OnlyS T w w')

theorem cOpen_arg {q : Nm} (hq : wnB q = false) (hl : q.length ≤ 9223372036854775807) (p : Option Addr) (w : World) :
    Calls Try.prog 40 #[.pointer p, nm q] w fun e w' => e = .returned (.tuple #[.pointer none, .int .i64 1]) ∧ w' = w := by
  have H := Lib.hid (Open_arg hq hl p w)
  clear hq hl
  go_enter Try.func40, Try.ntmps40
  go_wp2_with fail
  refine H.out.mono ?_
  rintro e w' ⟨rfl, rfl⟩
  go_wp2
  go_ret2
  exact ⟨rfl, rfl⟩

theorem ncOpen_any {q : Nm} (hq : wn q) (w : World) : Calls Try.prog 40 #[.pointer none, nm q] w fun e w' => e = .returned (.tuple #[.pointer none, .int .i64 6]) ∧ Below w.heap.size w w' := by
  have H := Lib.hid (nOpen_any hq w)
  clear hq
  go_enter Try.func40, Try.ntmps40
  go_wp2_with fail
  refine H.out.mono ?_
  rintro e w' ⟨rfl, hb⟩
  have HB := Lib.hid hb
  clear hb
  go_wp2
  go_ret2
  exact ⟨rfl, HB.out⟩

set_option maxHeartbeats 1000000 in
theorem cOpen_any {w : World} {T : Nat → Prop} {d c : Nat} {q : Nm} {s : St} (hq : wn q) (hD : IsDisk w T d c s) (hc : c + 1 ≤ 2000) :
    Calls Try.prog 40 #[dp d, nm q] w (COpenEnd w T d (c + 1) q (getA (nowN q) s.now) (opA q s).1 (opA q s).2) := by
  have H := Lib.hid (swOpen_any hq hD hc)
  have HT := Lib.hid hD.lt
  clear hq hD hc
  go_enter Try.func40, Try.ntmps40
  go_wp2_with fail
  refine H.out.mono ?_
  rintro e w1 (⟨h6, rfl, hnx⟩ | ⟨h0, x, rfl, hx, hsw, ho⟩)
  · have HN := Lib.hid hnx
    have H6 := Lib.hid h6
    clear hnx h6 H
    go_wp2
    go_ret2
    exact .inl ⟨H6.out, rfl, HN.out⟩
  · have HS := Lib.hid hsw
    have H0 := Lib.hid h0
    have HO := Lib.hid ho
    have HX := Lib.hid hx
    clear hsw h0 ho hx H
    go_wp2
    go_ret2
    have h1 := HO.out.size
    exact .inr ⟨H0.out, _, x, _, rfl, h1, HS.out.below ((Below.refl _ w1).alloc (Nat.le_refl _) _), fun h => Nat.lt_irrefl _ (HS.out.lt _ h), fun k hk => hk.imp id fun h => h.1, Blk.new w1 _ _, HO.out.alloc _⟩

section
variable {w : World} {U : Nat → Prop} {z x d c : Nat} {q : Nm} {s : St} {t : Tx} {o : Bool}

/-- A struct in its cells, where zeros were. -/
theorem ret_cell {W : World} {g : Nat} (hg : Blk W g 63 #[.int .u64 0, .int .u64 0]) : W.cell? ⟨g, 0, none⟩ = some (.int .u64 0) ∧ W.cell? ⟨g, 1, none⟩ = some (.int .u64 0) ∧ W.frozen? ⟨g, 0, none⟩ = false ∧ W.frozen? ⟨g, 1, none⟩ = false :=
  ⟨by rw [hg.cell]; rfl, by rw [hg.cell]; rfl, hg.frozen 0, hg.frozen 1⟩

set_option maxHeartbeats 1000000 in
theorem cGet_any (hz : IsC w z x) (h : Sw w U x d c q s t o) : Calls Try.prog 39 #[.pointer (some ⟨z, 0, none⟩)] w fun e w' => e = .returned (hv (hdOf t)) ∧ Below w.heap.size w w' := by
  have hb0 : Below w.heap.size w (w.alloc (.cells #[.int .u64 0, .int .u64 0] 63)) := (Below.refl _ w).alloc (Nat.le_refl _) _
  have g0 : Blk (w.alloc (.cells #[.int .u64 0, .int .u64 0] 63)) w.heap.size 63 #[.int .u64 0, .int .u64 0] := Blk.new w _ _
  have c0 : (w.alloc (.cells #[.int .u64 0, .int .u64 0] 63)).cell? ⟨z, 0, none⟩ = some (.pointer (some ⟨x, 0, none⟩)) := by rw [(Blk.keep hz hb0).cell]; rfl
  have HGet := Lib.hid (swGet_any (h.below hb0))
  have HB0 := Lib.hid hb0
  have HG0 := Lib.hid g0
  have HS := Lib.hid h.short
  clear hz h hb0 g0
  cases t with
  | none =>
    go_enter Try.func39, Try.ntmps39
    go_wp2_with fail
    refine HGet.out.mono ?_
    rintro e w1 ⟨v', rfl, hr, hb1⟩
    obtain ⟨va, vc, rfl⟩ := slice_of_row hr
    have HG1 := Lib.hid (HG0.out.keep hb1)
    have HB1 := Lib.hid (HB0.out.trans (hb1.mono HB0.out.size))
    obtain ⟨z0, z1, f0, f1⟩ := ret_cell HG1.out
    clear hr hb1 HGet c0
    go_wp2
    refine bodyPost_ret (v := hv (0, 0)) (ret_hard rfl _ _ w.heap.size 0 0 rfl (set_hard HG1.out 0 0)) rfl ⟨rfl, ?_⟩
    exact (HB1.out.setCell (Nat.le_refl _) _).setCell (Nat.le_refl _) _
  | some b =>
    go_enter Try.func39, Try.ntmps39
    go_wp2_with fail
    refine HGet.out.mono ?_
    rintro e w1 ⟨v', rfl, hr, hb1⟩
    obtain ⟨va, vc, rfl⟩ := slice_of_row hr
    have HG1 := Lib.hid (HG0.out.keep hb1)
    have HB1 := Lib.hid (HB0.out.trans (hb1.mono HB0.out.size))
    have HIn := Lib.hid (hardIn_any va ((some b : Tx).getD []).length vc b w1 hr.bys (by have := HS.out; show b.length ≤ _; simp only [Option.getD_some] at this; omega))
    obtain ⟨n, hn⟩ : ∃ n, n = ((some b : Tx).getD []).length := ⟨_, rfl⟩
    rw [← hn] at HIn ⊢
    clear hr hb1 HGet c0 hn
    go_wp2_with fail
    refine HIn.out.mono ?_
    rintro e w2 ⟨rfl, hb2⟩
    have HG2 := Lib.hid (HG1.out.keep hb2)
    have HB2 := Lib.hid (HB1.out.trans (hb2.mono HB1.out.size))
    obtain ⟨z0, z1, f0, f1⟩ := ret_cell HG2.out
    obtain ⟨H, hH⟩ : ∃ H, H = hardOf b := ⟨_, rfl⟩
    rw [← hH]
    have HH := Lib.hid hH
    obtain ⟨n1, n2⟩ := H
    clear hb2 HIn HG1 HB1 hH
    go_wp2
    refine bodyPost_ret (v := hv (n1, n2)) (ret_hard rfl _ _ w.heap.size n1 n2 rfl (set_hard HG2.out n1 n2)) rfl ⟨by show _ = Ending.returned (hv (hardOf b)); rw [← HH.out], ?_⟩
    exact (HB2.out.setCell (Nat.le_refl _) _).setCell (Nat.le_refl _) _

theorem nget_any (w : World) : Calls Try.prog 39 #[.pointer none] w fun e w' => e = .returned (hv (0, 0)) ∧ Below w.heap.size w w' := by
  have hb0 : Below w.heap.size w (w.alloc (.cells #[.int .u64 0, .int .u64 0] 63)) := (Below.refl _ w).alloc (Nat.le_refl _) _
  have g0 : Blk (w.alloc (.cells #[.int .u64 0, .int .u64 0] 63)) w.heap.size 63 #[.int .u64 0, .int .u64 0] := Blk.new w _ _
  have HB := Lib.hid hb0
  have HG := Lib.hid g0
  clear hb0 g0
  go_enter Try.func39, Try.ntmps39
  go_wp2
  exact bodyPost_ret (v := hv (0, 0)) (ret_hard rfl _ _ w.heap.size 0 0 rfl HG.out) rfl ⟨rfl, HB.out⟩

theorem ncset_any (h : Hd) (w : World) : Calls Try.prog 43 #[.pointer none, hv h] w fun e w' => e = .returned (.int .i64 6) ∧ Below w.heap.size w w' := by
  obtain ⟨a, b⟩ := h
  have hb0 : Below w.heap.size w (w.alloc (.cells #[.int .u64 (a : Int), .int .u64 (b : Int)] 63)) := (Below.refl _ w).alloc (Nat.le_refl _) _
  have HB0 := Lib.hid hb0
  clear hb0
  go_enter Try.func43, Try.ntmps43
  go_wp2
  go_ret
  exact ⟨rfl, HB0.out⟩

theorem load_fp (W : World) (p : Addr) (v : Value) (h : W.cell? p = some v) : (Instr.loadAt 128 (.pointer (some p))).run Try.prog W = .ok v W := by
  have hagg : (isAgg 128).run Try.prog W = .ok false W := by kernel_rfl
  simp [Instr.loadAt, Instr.sureAddr, loadVar, Sem.run_bind, hagg, h]

theorem load_hard {W : World} {B o : Nat} {t : TypeId} {cs : Array Value} {a b : Nat} (h : Blk W B t cs) (h0 : cs[o]? = some (.int .u64 (a : Int))) (h1 : cs[o + 1]? = some (.int .u64 (b : Int))) : (Instr.loadAt 63 (.pointer (some ⟨B, o, none⟩))).run Try.prog W = .ok (hv (a, b)) W :=
  h.loadsAt 63 _ o o [.int .u64 (a : Int), .int .u64 (b : Int)] Try.underlying63 rfl (by kernel_rfl) (fun j u hj => by
    match j, hj with
    | 0, hj => simp at hj; subst hj; simpa using h0
    | 1, hj => simp at hj; subst hj; simpa using h1) rfl

set_option maxHeartbeats 2000000 in
theorem cset_any {h : Hd} (hq : wn q) (hz : IsC w z x) (hs : Sw w U x d c q s t false) (ho : okH h) (hc : c + 3 ≤ 2000) :
    Calls Try.prog 43 #[.pointer (some ⟨z, 0, none⟩), hv h] w fun e w' => e = .returned (.int .i64 (saysC (swA q s (txt h)).1 : Int)) ∧ PutEnd w U x d (c + 3) q t (txt h) (swA q s (txt h)).1 (swA q s (txt h)).2 w' := by
  obtain ⟨Y, hY⟩ : ∃ Y, Y = (swA q s (txt h)).1 := ⟨_, rfl⟩
  obtain ⟨Z, hZ⟩ : ∃ Z, Z = (swA q s (txt h)).2 := ⟨_, rfl⟩
  have HPut : Hid (∀ W v, Below w.heap.size w W → Row W w.heap.size v (txt h) → Calls Try.prog 83 #[.pointer (some ⟨x, 0, none⟩), v] W fun e w' => e = .returned (.int .i64 (saysC Y : Int)) ∧ PutEnd W U x d (c + 3) q t (txt h) Y Z w') := fun W v hW hr => by
    obtain ⟨va, vc, rfl⟩ := slice_of_row hr
    have h1 := swPut_any hq (hs.below hW) hr.bys rfl (by have := (txt_len h ho).2; omega) (fun _ ad e => by
      have hob : (Value.slice va (txt h).length vc).ownBlock = some ad.block := by
        rcases hr.2 with ⟨h1, -⟩ | ⟨g, cp, cur, h1, -⟩
        · subst e; cases h1
        · subst e; cases h1; rfl
      have h2 := hr.lt hob
      exact ⟨h2.2, fun hU => by have := hs.lt _ hU; omega⟩) hc
    rw [← hY, ← hZ] at h1
    exact h1
  rw [← hY, ← hZ]
  have HT := Lib.hid (fun W => textOf_any h ho W)
  have HS := Lib.hid hs
  obtain ⟨a, b⟩ := h
  have hb0 : Below w.heap.size w (w.alloc (.cells #[.int .u64 (a : Int), .int .u64 (b : Int)] 63)) := (Below.refl _ w).alloc (Nat.le_refl _) _
  have HB0 := Lib.hid hb0
  clear hY hZ hq hs ho hc
  go_enter Try.func43, Try.ntmps43
  go_upto_region 3 with fail
  obtain ⟨W0, hW0⟩ : ∃ W0, W0 = w.alloc (.cells #[.int .u64 (a : Int), .int .u64 (b : Int)] 63) := ⟨_, rfl⟩
  obtain ⟨b0, hb0'⟩ : ∃ b0, b0 = w.heap.size := ⟨_, rfl⟩
  have hbox : Blk W0 b0 63 #[.int .u64 (a : Int), .int .u64 (b : Int)] := by rw [hW0, hb0']; exact Blk.new w _ _
  rw [← hW0] at HB0
  have hcz : IsC W0 z x := Blk.keep hz HB0.out
  have HC := Lib.hid hcz
  have HBox := Lib.hid hbox
  have hG : ∀ W W' : World, Below W0.heap.size W0 W → Below W.heap.size W W' → Below W0.heap.size W0 W' := fun W W' h h' => h.trans (h'.mono h.size)
  rw [← hW0, ← hb0']
  clear hW0 hb0' hbox hb0 hz hcz
  refine region_tails_by 6 [(7, .is (.pointer (some ⟨z, 0, none⟩))), (8, .is (.pointer (some ⟨z, 0, none⟩))), (9, .is (.pointer (some ⟨z, 0, none⟩))), (10, .is (.pointer (some ⟨x, 0, none⟩))), (11, .is (hv (a, b))), (12, .row w.heap.size (txt (a, b)))] [10, 12] (fun W => Below W0.heap.size W0 W) (by kernel_rfl) (by kernel_rfl) (by kernel_rfl) (by kernel_rfl) (by kernel_rfl) (by decide) (by kernel_rfl) (by kernel_rfl) ((Below.refl _ _).drew) ?_ ?_
  · refine ⟨?c0, ?c1, ?c2, ?c3, ?c4, ?c5, trivial⟩
    case c0 => exact ask_copy (guard_none rfl) (.tmp 0) (.inl rfl) (by intro k hk; cases hk; rfl)
    case c1 => exact ask_exec (guard_none rfl) (.pointer (some ⟨z, 0, none⟩)) rfl rfl (by intro k hk; cases hk; rfl) (fun W hW => by kernel_rfl)
    case c2 => exact ask_field (guard_none rfl) _ (.tmp 8) 0 (.pointer (some ⟨z, 0, none⟩)) (.pointer (some ⟨z, 0, none⟩)) rfl rfl (by intro k hk; cases hk; rfl) (fun W => by kernel_rfl)
    case c3 => exact ask_load (guard_none rfl) _ (.tmp 9) (.pointer (some ⟨z, 0, none⟩)) (.pointer (some ⟨x, 0, none⟩)) rfl rfl (by intro k hk; cases hk; rfl) (fun W hW => load_fp W _ _ (by rw [hW.cell (p := ⟨z, 0, none⟩) HC.out.lt, HC.out.cell]; rfl))
    case c4 => exact ask_load (guard_none rfl) _ (.tmp 3) (.pointer (some ⟨b0, 0, none⟩)) (hv (a, b)) rfl rfl (by intro k hk; cases hk; rfl) (fun W hW => load_hard (HBox.out.keep hW) rfl rfl)
    case c5 => exact ask_call hG (guard_none rfl) _ _ _ #[hv (a, b)] (.row w.heap.size (txt (a, b))) rfl (by kernel_rfl) rfl rfl (by intro k hk; cases hk; rfl) (fun W hW => (HT.out W).mono fun e w' h => by
      obtain ⟨v, h1, h2, h3⟩ := h
      exact ⟨v, h1, row_lower h2 (Nat.le_trans HB0.out.size hW.size), h3⟩)
  · intro af W1 hW hd' hs' hf'
    have t10 : af.tmps.getD 10 undef = .pointer (some ⟨x, 0, none⟩) := hf' 10 rfl
    have t12 : Row W1 w.heap.size (af.tmps.getD 12 undef) (txt (a, b)) := hf' 12 rfl
    obtain ⟨us, hus, haf⟩ := act_open 14 af hs' hd'
    rw [← hus] at t10 t12
    have el : ((List.range 14).map us).toArray = #[us 0, us 1, us 2, us 3, us 4, us 5, us 6, us 7, us 8, us 9, us 10, us 11, us 12, us 13] := rfl
    rw [el] at haf
    subst haf
    rw [t10]
    have HB1 := Lib.hid hW
    have HRow := Lib.hid t12
    clear hus t10 t12 el hf' hs' hd' hW
    simp only [List.drop_succ_cons, List.drop_zero]
    have HB1' : Hid (Below w.heap.size w W1) := Lib.hid (HB0.out.trans (HB1.out.mono HB0.out.size))
    go_wp2_with fail
    refine (HPut.out W1 _ HB1'.out HRow.out).mono ?_
    rintro e w2 ⟨rfl, he⟩
    have HE := Lib.hid he
    clear he
    go_wp2
    go_ret
    obtain ⟨p1, p2, p3⟩ := HE.out
    exact ⟨rfl, fun h => (p1 h).pre HB1'.out HS.out.lt, fun h => (p2 h).pre HB1'.out HS.out.lt, fun h h' => (p3 h h').pre HB1'.out HS.out.lt⟩
end
end Go.Proofs.Ytboongdoggggoaa
