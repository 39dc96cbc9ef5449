/- What every law of layer 10 asks first. -/
import Derived.Test.YtboongdoggggoaaCell
namespace Go.Proofs.Ytboongdoggggoaa
set_option maxRecDepth 20000
open Go.RowKit Go.Maps DiskMath SwapMath CellMath BinMath Reg

set_option maxHeartbeats 1000000 in
theorem cawake_any (w : World) : Calls Try.prog 33 #[] w fun e w' => e = .returned (.bool true) ∧ Below w.heap.size w w' := by
  go_enter Try.func33, Try.ntmps33
  go_wp2_with fail
  refine (new_any w 1073741824).mono ?_
  rintro e w1 ⟨d, rfl, hd, hb1⟩
  have HB1 := Lib.hid hb1
  have hop := cOpen_any (q := [97]) (by decide) hd (by omega)
  rw [opA_new] at hop
  have HOp := Lib.hid hop
  clear hb1 hd hop
  go_wp2_with fail
  refine HOp.out.mono ?_
  rintro e w2 (⟨h6, -⟩ | ⟨-, z, x, U, rfl, hz, hsw, hzU, hU, hv, ho⟩)
  · exact absurd h6 (by decide)
  have hsw2 : Sw w2 U x d 1 [97] (St.new 1073741824) none false := hsw
  have hb2 : Below w.heap.size w w2 := HB1.out.trans (ho.below (fun k hk h => by have := h.1; omega) HB1.out.size)
  have hfin := (put_idle (q := [97]) (b := txt (5, 2)) (by decide) (fresh_new [97] 1073741824).1 (txt_short _ (by decide)) (by decide)).1
  have hz0 : (swA [97] (St.new 1073741824) (txt (5, 2))).1 = 0 := by
    rcases hfin with h | h
    · exact h.1
    · exact absurd rfl h.2.1
  have hset := cset_any (q := [97]) (h := (5, 2)) (by decide) hv hsw2 (by decide) (by omega)
  rw [hz0] at hset
  have hU2 : ∀ k, U k → w.heap.size ≤ k := fun k hk => by
    rcases hU k hk with h | h
    · exact h.1
    · exact Nat.le_trans HB1.out.size h
  have HB2 := Lib.hid hb2
  have HV := Lib.hid hv
  have HP := Lib.hid hset
  have HZU := Lib.hid hzU
  have HU := Lib.hid hU2
  clear hz hsw hzU hU hv ho hsw2 hb2 hfin hz0 hset hU2
  go_wp2_with fail
  refine HP.out.mono ?_
  rintro e w3 ⟨rfl, h3, -, -⟩
  have h3 := h3 rfl
  have hv3 : IsC w3 z x := h3.blk HV.out HZU.out
  have hb3 : Below w.heap.size w w3 := HB2.out.trans (h3.only.below (fun k hk h => by have := HU.out k h; omega) HB2.out.size)
  have HB3 := Lib.hid hb3
  have HG := cGet_any hv3 h3.sw
  rw [hdOf_txt (5, 2) (by decide)] at HG
  have HGet := Lib.hid HG
  have e0 : ((saysC 0 : Nat) : Int) = 0 := rfl
  rw [e0]
  clear h3 hb3 hv3 e0 HP HG
  go_wp2_with fail
  refine HGet.out.mono ?_
  rintro e w4 ⟨rfl, hb4⟩
  have HB4 := Lib.hid (HB3.out.trans (hb4.mono HB3.out.size))
  clear hb4
  go_wp2
  go_ret
  exact ⟨rfl, HB4.out⟩
end Go.Proofs.Ytboongdoggggoaa
