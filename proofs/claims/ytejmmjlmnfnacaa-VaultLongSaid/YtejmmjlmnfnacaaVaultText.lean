/- What a vault has, as the laws take it. -/
import Derived.Test.YtejmmjlmnfnacaaVault
namespace Go.Proofs.Ytejmmjlmnfnacaa
open Go.RowKit Go.Maps DiskMath SwapMath Reg

/-- A text, or none, as a value. -/
abbrev tv (t : Tx) : Value := .agg #[nm (t.getD []), .bool t.isSome]

/-- A struct in its cell as the result. -/
theorem ret_text {fn : Func} {p : Tmp} (h : fn.results = #[.cell p 59]) (tmps : Array Value) (W : World) (g : Nat) (S : ByteArray) (b : Bool) (hp : tmps.getD p undef = .pointer (some ⟨g, 0, none⟩)) (hb : Blk W g 59 #[.string S, .bool b]) :
    (results fn tmps).run Try.prog W = .ok (.agg #[.string S, .bool b]) W :=
  results_cell_row h _ _ g 59 #[.string S, .bool b] (0, 0) _ hp hb Try.underlying59 rfl (by kernel_rfl)

set_option maxHeartbeats 1000000 in
set_option maxRecDepth 20000 in
theorem text_walk {z : Option Addr} {w : World} {t : Tx} (h : ∀ W, Below w.heap.size w W → Calls Try.prog 41 #[.pointer z] W fun e w' => ∃ v', e = .returned (.tuple #[v', .bool t.isSome]) ∧ Row w' W.heap.size v' (t.getD []) ∧ Below W.heap.size W w') (hs : (t.getD []).length ≤ 8388608) :
    Calls Try.prog 23 #[.pointer z] w fun e w' => e = .returned (tv t) ∧ Below w.heap.size w w' := by
  obtain ⟨l, hl⟩ : ∃ l, l = t.getD [] := ⟨_, rfl⟩
  obtain ⟨b, hb⟩ : ∃ b, b = t.isSome := ⟨_, rfl⟩
  unfold tv
  rw [← hl] at hs ⊢
  rw [← hb]
  have H := Lib.hid h
  rw [← hl, ← hb] at H
  obtain ⟨S, hS⟩ : ∃ S : ByteArray, S = ⟨l.toArray⟩ := ⟨_, rfl⟩
  have hnm : nm l = .string S := by rw [hS]; rfl
  rw [hnm]
  have HSS := Lib.hid hS
  have hb0 : Below w.heap.size w (w.alloc (.cells #[.string ⟨#[]⟩, .bool false] 59)) := (Below.refl _ w).alloc (Nat.le_refl _) _
  have g0 : Blk (w.alloc (.cells #[.string ⟨#[]⟩, .bool false] 59)) w.heap.size 59 #[.string ⟨#[]⟩, .bool false] := Blk.new w _ _
  have HB0 := Lib.hid hb0
  have HG0 := Lib.hid g0
  have HGet := Lib.hid (H.out _ hb0)
  have HS8 := Lib.hid hs
  clear hs hl hb h hS hnm hb0 g0 H
  go_enter Try.func23, Try.ntmps23
  go_wp2_with fail
  refine HGet.out.mono ?_
  rintro e w2 ⟨v, rfl, hr, hb2⟩
  obtain ⟨va, vc, rfl⟩ := slice_of_row hr
  have hcv := conv_bys hr.bys
  rw [← HSS.out] at hcv
  obtain ⟨k, hk⟩ : ∃ k, k = l.length := ⟨_, rfl⟩
  have HK := Lib.hid hk
  have hk8 : k ≤ 8388608 := by rw [hk]; exact HS8.out
  rw [← hk] at hcv hr ⊢
  have HR2 := Lib.hid hr
  have HG2 := Lib.hid (HG0.out.keep hb2)
  have HB2 := Lib.hid (HB0.out.trans (hb2.mono HB0.out.size))
  have hsz : w.heap.size < w2.heap.size := HG2.out.lt
  have HSz := Lib.hid hsz
  have hz0 : w.heap.size + 1 ≤ (w.alloc (.cells #[.string ⟨#[]⟩, .bool false] 59)).heap.size := by simp
  have HZ0 := Lib.hid hz0
  clear hr hb2 hk HGet HG0 HB0 hsz hz0
  go_wp2_with fail
  clear hcv
  go_loopw [6] (fun s6 wr => ∃ (j : Nat) (l' : List UInt8), j ≤ k ∧ l'.length = k ∧ s6 = .int .i64 j ∧ Hid (Row wr (w.alloc (.cells #[.string ⟨#[]⟩, .bool false] 59)).heap.size (.slice va k vc) l') ∧ Hid (Below w.heap.size w wr) ∧ Hid (Blk wr w.heap.size 59 #[.string ⟨#[]⟩, .bool false])) (fun s6 _ => k - (intOf s6).toNat)
  case atStart => exact ⟨0, l, Nat.zero_le _, HK.out.symm, rfl, HR2, HB2, HG2⟩
  case round =>
    obtain ⟨j, lj, hj, hll, rfl, HRw, HBw, HGw⟩ := hrel
    by_cases hjk : j < k
    · have j0 : (0 : Int) ≤ (j : Int) := Int.natCast_nonneg _
      have j1 : (j : Int) < (k : Int) := by omega
      have hrw := HRw.out
      obtain ⟨gx, hgx⟩ : ∃ gx, va = some ⟨gx, 0, none⟩ := by
        rcases hrw.2 with ⟨hv, h0⟩ | ⟨gx, cap, cur, hv, _⟩
        · omega
        · simp at hv
          exact ⟨gx, hv.1⟩
      subst hgx
      obtain ⟨⟨z, hz⟩, hfz⟩ := row_cell hrw j (by omega)
      have hgB := (hrw.lt (k := gx) rfl).1
      have HGB := Lib.hid hgB
      have HLL := Lib.hid hll
      clear hrw hll hgB
      go_wp2
      go_roundw
      case rel =>
        obtain ⟨b', hb'⟩ := u8_wrap (z + 1)
        refine ⟨j + 1, lj.set j b', by omega, by rw [List.length_set]; exact HLL.out, by go_num, Lib.hid ?_, Lib.hid ?_, Lib.hid ?_⟩
        · have h := row_set HRw.out j b'
          rw [← hb'] at h
          first | exact h | (rw [IntKind.wrap_u8] at h; exact h)
        · exact HBw.out.setCell (by have := HGB.out; have := HZ0.out; show w.heap.size ≤ gx; omega) _
        · exact HGw.out.other _ _ (by have := HGB.out; have := HZ0.out; show w.heap.size ≠ gx; omega)
      case measure => simp [intOf]; omega
    · clear hll
      have z0 : wr.cell? ⟨w.heap.size, 0, none⟩ = some (.string ⟨#[]⟩) := by rw [HGw.out.cell]; rfl
      have z1 : wr.cell? ⟨w.heap.size, 1, none⟩ = some (.bool false) := by rw [HGw.out.cell]; rfl
      have f0 : wr.frozen? ⟨w.heap.size, 0, none⟩ = false := HGw.out.frozen 0
      have f1 : wr.frozen? ⟨w.heap.size, 1, none⟩ = false := HGw.out.frozen 1
      go_wp2
      refine bodyPost_ret (v := .agg #[.string S, .bool b]) (ret_text rfl _ _ w.heap.size S b rfl (Blk.set (Blk.set HGw.out 0 _) 1 _)) rfl ⟨rfl, ?_⟩
      exact (HBw.out.setCell (Nat.le_refl _) _).setCell (Nat.le_refl _) _

theorem text_any {w : World} {U : Nat → Prop} {z x d c : Nat} {q : Nm} {s : St} {t : Tx} {o : Bool} (hz : IsV w z x) (h : Sw w U x d c q s t o) : Calls Try.prog 23 #[.pointer (some ⟨z, 0, none⟩)] w fun e w' => e = .returned (tv t) ∧ Below w.heap.size w w' :=
  text_walk (fun _ hW => vGet_any (hz.keep hW) (h.below hW)) h.short

theorem ntext_any (w : World) : Calls Try.prog 23 #[.pointer none] w fun e w' => e = .returned (tv none) ∧ Below w.heap.size w w' :=
  text_walk (t := none) (fun W _ => (nvGet_any W).mono fun e w' h => by
    obtain ⟨h1, rfl⟩ := h
    exact ⟨_, h1, World.ownsRow_nil _ _ _ _, Below.refl _ _⟩) (by simp)
end Go.Proofs.Ytejmmjlmnfnacaa
