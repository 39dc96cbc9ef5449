/- What every law of layer 10 asks first. -/
import Derived.Test.YthlnhphmbjkjkaaCellOpen
namespace Go.Proofs.Ythlnhphmbjkjkaa
open Go.RowKit Go.Maps DiskMath CellMath BinMath Reg

theorem new_short (R : Int) {n : Nm} {m : Nat} : ∀ t, getA n (St.new R).now = some t → t.length ≤ m := fun t h => by simp [St.new, getA] at h

set_option maxHeartbeats 1000000 in
set_option maxRecDepth 20000 in
theorem cawake_any (w : World) : Calls Try.prog 5 #[] w fun e w' => e = .returned (.bool true) ∧ Below w.heap.size w w' := by
  go_enter Try.func5, Try.ntmps5
  go_wp2_with fail
  refine (new_any w 1073741824).mono ?_
  rintro e w1 ⟨d, rfl, hd, hb1⟩
  have HB1 := Lib.hid hb1
  have HD := Lib.hid hd
  clear hb1 hd
  go_wp2_with fail
  refine (Open_any (q := [97]) (by decide) HD.out (new_short _)).mono ?_
  rintro e w2 ⟨hb2, h | ⟨-, x, rfl, hx, hc⟩⟩
  · exact absurd h.1 (by decide)
  have hc2 : IsCell w2 x d [97] (0, 0) false := hc
  have HC := Lib.hid hc2
  have HX := Lib.hid hx
  have HB2 := Lib.hid (HB1.out.trans (hb2.mono HB1.out.size))
  have hD2 := HD.out.below hb2
  have hfin := (set_idle (q := [97]) (by decide) (idle_new [97] 1073741824) (h := (5, 2)) (by decide) (by decide) (by decide)).1
  have hz : (setA [97] (St.new 1073741824) (5, 2)).1 = 0 := by
    rcases hfin with h | h
    · exact h.1
    · exact absurd rfl h.2.1
  have hset := cset_any (q := [97]) (h := (5, 2)) (by decide) hD2 hc2 (fun h => by have := h.2; omega) (by decide) (by omega)
  rw [hz] at hset
  have HS := Lib.hid hset
  clear hb2 hx hc hc2 hD2 hfin hz hset
  go_wp2_with fail
  refine HS.out.mono ?_
  rintro e w3 ⟨rfl, h3, -, -⟩
  have h3 := h3 rfl
  have hb3 : Below w.heap.size w w3 := HB2.out.trans (h3.only.below (fun k hk h => by
    have := HX.out
    have := HB1.out.size
    rcases h with h | h
    · have := h.1; omega
    · omega) HB2.out.size)
  have HB3 := Lib.hid hb3
  have HC3 := Lib.hid h3.cell
  have e0 : ((saysC 0 : Nat) : Int) = 0 := rfl
  rw [e0]
  clear h3 hb3 e0 HS HC
  go_wp2_with fail
  refine (get_any HC3.out).mono ?_
  rintro e w4 ⟨rfl, hb4⟩
  have HB4 := Lib.hid (HB3.out.trans (hb4.mono HB3.out.size))
  clear hb4
  go_wp2
  go_ret
  exact ⟨rfl, HB4.out⟩
end Go.Proofs.Ythlnhphmbjkjkaa
