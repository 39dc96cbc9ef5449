/- Set. -/
import Derived.Test.YthlnhphmbjkjkaaCellReplace
namespace Go.Proofs.Ythlnhphmbjkjkaa
open Go.RowKit Go.Maps DiskMath CellMath BinMath Reg

/-- What a call leaves that may write a disk of blocks T and a cell x. -/
structure CNx (w : World) (T : Nat → Prop) (x d c : Nat) (q : Nm) (s : St) (h : Hd) (o : Bool) (w' : World) : Prop where
  disk : IsDisk w' (more w T w') d c s
  cell : IsCell w' x d q h o
  only : OnlyS (fun k => T k ∨ k = x) w w'

theorem IsDisk.put {W : World} {T : Nat → Prop} {d c : Nat} {s : St} (h : IsDisk W T d c s) {x : Nat} (hx : ¬ T x) (i : Nat) (u : Value) : IsDisk (W.setCell ⟨x, i, none⟩ u) T d c s :=
  h.same (fun k hk => heap_set_other (fun e => by subst e; exact hx hk) u) (by simp [World.setCell])

theorem IsDisk.moved {w W W' : World} {T : Nat → Prop} {d c : Nat} {s : St} (h : IsDisk W' (more w T W) d c s) (hs : W'.heap.size = W.heap.size) : IsDisk W' (more w T W') d c s := by
  unfold more
  rw [hs]
  exact h

theorem only_put {S : Nat → Prop} {w W : World} (h : OnlyS S w W) {x : Nat} (hx : S x) (i : Nat) (u : Value) : OnlyS S w (W.setCell ⟨x, i, none⟩ u) := h.setCell (fun _ => hx) u

/-- What Set answers. -/
def saysC (c : Nat) : Nat := if c = 0 then 0 else if c = 7 then 7 else 6

def SetEnd (w : World) (T : Nat → Prop) (x d c : Nat) (q : Nm) (h0 h : Hd) (Y : Nat) (Z : St) (w' : World) : Prop :=
  (Y = 0 → CNx w T x d c q Z h false w') ∧ (Y = 7 → CNx w T x d c q Z h0 false w') ∧ (Y ≠ 0 → Y ≠ 7 → CNx w T x d c q Z h0 true w')

set_option maxHeartbeats 2000000 in
set_option maxRecDepth 20000 in
theorem cset_any {w : World} {T : Nat → Prop} {x d c : Nat} {q : Nm} {s : St} {h0 h : Hd} (hq : wn q) (hD : IsDisk w T d c s) (hC : IsCell w x d q h0 false) (hx : ¬ T x) (ho : okH h) (hc : c + 2 ≤ 2000) :
    Calls Try.prog 15 #[.pointer (some ⟨x, 0, none⟩), hv h] w fun e w' => e = .returned (.int .i64 (saysC (setA q s h).1 : Int)) ∧ SetEnd w T x d (c + 2) q h0 h (setA q s h).1 (setA q s h).2 w' := by
  obtain ⟨Y, Z, hYZ⟩ : ∃ Y Z, (Y, Z) = setA q s h := ⟨_, _, rfl⟩
  have hY : (setA q s h).1 = Y := by rw [← hYZ]
  have hZ : (setA q s h).2 = Z := by rw [← hYZ]
  have HR : Hid (∀ (W : World) (ta : Option Addr) (tn tc : Nat), Below w.heap.size w W → Bys W (.slice ta tn tc) (txt h) → (txt h).length = tn → Calls Try.prog 28 #[.pointer (some ⟨x, 0, none⟩), .slice ta tn tc] W fun e w' => e = .returned (.int .i64 (Y : Int)) ∧ Next W T d (c + 2) Z w') := fun W ta tn tc hW hb hl => by
    have h1 := replace_any hq (hD.below hW) (hC.below hW) hx hb hl (by have := (txt_len h ho).2; omega) hc
    rw [hY, hZ] at h1
    exact h1
  rw [hY, hZ]
  have HD := Lib.hid hD
  have HC := Lib.hid hC
  have HX := Lib.hid hx
  have HT := Lib.hid (fun W => textOf_any h ho W)
  obtain ⟨a, b⟩ := h
  have c4 : w.cell? ⟨x, 4, none⟩ = some (.bool false) := by rw [Blk.cell hC]; rfl
  have hxl := hC.lt
  have k4 : (w.alloc (.cells #[.int .u64 (a : Int), .int .u64 (b : Int)] 25)).cell? ⟨x, 4, none⟩ = some (.bool false) := by rw [World.cell?_of_block (w := w) (Below.heap_alloc w _ x hxl)]; exact c4
  have hb0 : Below w.heap.size w (w.alloc (.cells #[.int .u64 (a : Int), .int .u64 (b : Int)] 25)) := (Below.refl _ w).alloc (Nat.le_refl _) _
  have g0 : Blk (w.alloc (.cells #[.int .u64 (a : Int), .int .u64 (b : Int)] 25)) w.heap.size 25 #[.int .u64 (a : Int), .int .u64 (b : Int)] := Blk.new w _ _
  have HB0 := Lib.hid hb0
  have HG0 := Lib.hid g0
  have HXl := Lib.hid hxl
  clear hYZ hY hZ hq hD hC hx ho hc c4 hxl hb0 g0
  go_enter Try.func15, Try.ntmps15
  go_wp2_with fail
  refine (HT.out _).mono ?_
  rintro e w2 ⟨v, rfl, hr, hb⟩
  obtain ⟨va, vc, rfl⟩ := slice_of_row hr
  have HB2 := Lib.hid (HB0.out.trans (hb.mono HB0.out.size))
  have HG2 := Lib.hid (HG0.out.keep hb)
  have HRow := Lib.hid hr
  clear hr hb k4 HT
  go_wp2_with fail
  refine (HR.out w2 _ _ _ HB2.out HRow.out.bys rfl).mono ?_
  rintro e w3 ⟨rfl, hnx⟩
  have hbx : ¬ T w.heap.size := fun h => Nat.lt_irrefl _ (HD.out.lt _ h)
  have hG3 : Blk w3 w.heap.size 25 #[.int .u64 (a : Int), .int .u64 (b : Int)] := hnx.blk HG2.out hbx
  have hC3 : IsCell w3 x d q h0 false := hnx.isCell (HC.out.below HB2.out) HX.out
  have hnx3 := Next.pre HB2.out HD.out.lt hnx
  have HN := Lib.hid hnx3
  have HC3 := Lib.hid hC3
  have b0 : w3.cell? ⟨w.heap.size, 0, none⟩ = some (.int .u64 (a : Int)) := by rw [hG3.cell]; rfl
  have b1 : w3.cell? ⟨w.heap.size, 1, none⟩ = some (.int .u64 (b : Int)) := by rw [hG3.cell]; rfl
  have k2 : w3.cell? ⟨x, 2, none⟩ = some (.int .u64 (h0.1 : Int)) := by rw [Blk.cell hC3]; rfl
  have k3 : w3.cell? ⟨x, 3, none⟩ = some (.int .u64 (h0.2 : Int)) := by rw [Blk.cell hC3]; rfl
  have k4 : w3.cell? ⟨x, 4, none⟩ = some (.bool false) := by rw [Blk.cell hC3]; rfl
  have f2 : w3.frozen? ⟨x, 2, none⟩ = false := Blk.frozen hC3 2
  have f3 : w3.frozen? ⟨x, 3, none⟩ = false := Blk.frozen hC3 3
  have f4 : w3.frozen? ⟨x, 4, none⟩ = false := Blk.frozen hC3 4
  have hxm : ¬ more w T w3 x := more_not HX.out HXl.out
  have HXm := Lib.hid hxm
  have ho3 : OnlyS (fun k => T k ∨ k = x) w w3 := hnx3.only.mono fun k _ h => .inl h
  have HO3 := Lib.hid ho3
  clear hnx hG3 hC3 hnx3 hbx hxm ho3 HR HG2 HB2 HRow HG0 HB0
  by_cases hy0 : Y = 0
  · subst hy0
    go_wp2
    go_ret
    exact ⟨rfl, fun _ => ⟨((HN.out.disk.put HXm.out 2 _).put HXm.out 3 _).moved (by simp [World.setCell]), Blk.set (Blk.set HC3.out 2 _) 3 _, only_put (only_put HO3.out (.inr rfl) 2 _) (.inr rfl) 3 _⟩, fun h => absurd h (by decide), fun h => absurd rfl h⟩
  by_cases hy7 : Y = 7
  · subst hy7
    go_wp2
    go_ret
    exact ⟨rfl, fun h => absurd h (by decide), fun _ => ⟨HN.out.disk, HC3.out, HO3.out⟩, fun _ h => absurd rfl h⟩
  have z0 : ((Y : Int) == 0) = false := by simp; omega
  have z7 : ((Y : Int) == 7) = false := by simp; omega
  have hs : saysC Y = 6 := by unfold saysC; rw [if_neg hy0, if_neg hy7]
  have HS := Lib.hid hs
  have H0 := Lib.hid hy0
  have H7 := Lib.hid hy7
  clear hs hy0 hy7
  go_wp2
  go_ret
  exact ⟨by rw [HS.out]; rfl, fun h => absurd h H0.out, fun h => absurd h H7.out, fun _ _ => ⟨(HN.out.disk.put HXm.out 4 _).moved (by simp [World.setCell]), Blk.set HC3.out 4 _, only_put HO3.out (.inr rfl) 4 _⟩⟩

theorem cset_over {w : World} {x d : Nat} {q : Nm} {h0 h : Hd} (hC : IsCell w x d q h0 true) :
    Calls Try.prog 15 #[.pointer (some ⟨x, 0, none⟩), hv h] w fun e w' => e = .returned (.int .i64 6) ∧ Below w.heap.size w w' := by
  obtain ⟨a, b⟩ := h
  have c4 : w.cell? ⟨x, 4, none⟩ = some (.bool true) := by rw [Blk.cell hC]; rfl
  have k4 : (w.alloc (.cells #[.int .u64 (a : Int), .int .u64 (b : Int)] 25)).cell? ⟨x, 4, none⟩ = some (.bool true) := by rw [World.cell?_of_block (w := w) (Below.heap_alloc w _ x hC.lt)]; exact c4
  have hb0 : Below w.heap.size w (w.alloc (.cells #[.int .u64 (a : Int), .int .u64 (b : Int)] 25)) := (Below.refl _ w).alloc (Nat.le_refl _) _
  have HB0 := Lib.hid hb0
  clear hC c4 hb0
  go_enter Try.func15, Try.ntmps15
  go_wp2
  go_ret
  exact ⟨rfl, HB0.out⟩

theorem ncset_any (h : Hd) (w : World) : Calls Try.prog 15 #[.pointer none, hv h] w fun e w' => e = .returned (.int .i64 6) ∧ Below w.heap.size w w' := by
  obtain ⟨a, b⟩ := h
  have hb0 : Below w.heap.size w (w.alloc (.cells #[.int .u64 (a : Int), .int .u64 (b : Int)] 25)) := (Below.refl _ w).alloc (Nat.le_refl _) _
  have HB0 := Lib.hid hb0
  clear hb0
  go_enter Try.func15, Try.ntmps15
  go_wp2
  go_ret
  exact ⟨rfl, HB0.out⟩
end Go.Proofs.Ythlnhphmbjkjkaa
