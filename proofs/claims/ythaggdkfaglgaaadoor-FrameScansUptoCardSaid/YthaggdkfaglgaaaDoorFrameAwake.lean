/- What every law of layer 7 asks first. -/
import Derived.Test.YthaggdkfaglgaaaDoorFrameLay
import Derived.Lib.SlBytesConst
namespace Go.Proofs.YthaggdkfaglgaaaDoor
set_option maxRecDepth 20000
open Go.RowKit FrameMath CrcMath

theorem lay_a : (layF [[97]]).length = 7 ∧ (layF [[97]])[2]? = some 97 := by decide +kernel

/-- A list of one text, as it is laid. -/
theorem txs_one {W : World} {A : Option Addr} {n C : Nat} {t : List UInt8} (h : Bys W (.slice A n C) t) : Txs (W.alloc (.cells #[.slice A n C] 22)) (.slice (some ⟨W.heap.size, 0, none⟩) 1 1) [t] := by
  have hn : n = t.length := by
    rcases h with ⟨h1, rfl⟩ | ⟨ad, cap, h1, _⟩
    · simp at h1; exact h1.2.1
    · simp at h1; exact h1.2.1
  subst hn
  refine ⟨_, 1, rfl, Nat.le_refl _, fun i u hi => ?_⟩
  have hj0 : i = 0 := by
    have := (List.getElem?_eq_some_iff.1 hi).1
    simp at this
    omega
  subst hj0
  simp at hi
  subst hi
  exact ⟨_, A, C, rfl, by simp [Addr.add, World.cell?_alloc_at], h.below (Nat.le_refl _) ((Below.refl _ _).alloc (Nat.le_refl _) _)⟩

set_option maxHeartbeats 400000 in
theorem fawake_any (w : World) (ht : Tab w) : Calls Tryd.prog 7 #[] w fun e w' => e = .returned (.bool true) ∧ Below w.heap.size w w' := by
  have HT := Lib.hid ht
  clear ht
  go_enter Tryd.func7, Tryd.ntmps7
  have kc := fun (w : World) (C : Array Value) (n c : Nat) => Lib.run_convert_bytes_const (P := Tryd.prog) w 22 5 C n c Tryd.underlying22 Tryd.underlying5
  go_wp2_with fail
  clear kc
  have hx : Bys (w.alloc (.cells #[.int .u8 97] 5 (1, 2))) (.slice (some ⟨w.heap.size, 0, none⟩) 1 1) [97] := .inr ⟨_, _, rfl, fun i hi => by
    obtain rfl : i = 0 := by simp at hi; exact hi
    rw [addr_add, Nat.zero_add, World.cell?_alloc_mark]
    rfl⟩
  have hw1 : Below w.heap.size w (w.alloc (.cells #[.int .u8 97] 5 (1, 2))) := (Below.refl _ _).alloc (Nat.le_refl _) _
  have hx2 := txs_one hx
  rw [World.size_alloc] at hx2
  have hw2 := hw1.alloc hw1.size (.cells #[.slice (some ⟨w.heap.size, 0, none⟩) 1 1] 22)
  have HW2 := Lib.hid hw2
  refine (lay_any _ [[97]] _ hx2 (by simp) (HT.out.below (Nat.le_refl _) hw2)).mono ?_
  clear hx hw1 hx2 hw2
  rintro e w3 ⟨hb3, hc⟩
  have HB3 := Lib.hid (HW2.out.trans (hb3.mono HW2.out.size))
  clear hb3
  rcases hc with ⟨_, v, rfl, hr⟩ | ⟨⟨t, ht, hl⟩, _⟩
  · obtain ⟨l, hl⟩ : ∃ l, l = layF [[97]] := ⟨_, rfl⟩
    have h2 := lay_a
    rw [← hl] at hr h2
    obtain ⟨g, cap, rfl, -⟩ := hr.shape (by intro h; rw [h] at h2; simp at h2)
    obtain ⟨h3, h4⟩ := h2
    rw [h3] at hr
    have hc := (row_at hr 2 (by omega)).1
    rw [(List.getElem?_eq_some_iff.1 h4).2] at hc
    have c2 : w3.cell? ⟨g, 2, none⟩ = some (.int .u8 97) := hc
    rw [h3]
    clear hl hr h3 h4 hc
    go_wp2
    go_ret
    exact ⟨rfl, HB3.out⟩
  · simp at ht
    subst ht
    simp at hl
end Go.Proofs.YthaggdkfaglgaaaDoor
