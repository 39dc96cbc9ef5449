/- The reference's Do: a cut. -/
import Derived.Test.YtabddeoeihlnnaaRefDo
namespace Go.Proofs.Ytabddeoeihlnnaa
open Go.RowKit Go.Maps DiskMath Reg

theorem below_draws {B : Nat} {w W : World} (h : Below B w W) (q : Nat) : Below B w (W.drewN q) := ⟨h.os, h.tape, h.output, h.size, h.block⟩

theorem build_file (W : World) (N : ByteArray) (a : Option Addr) (n c : Nat) : (Instr.build 71 #[(0, .string N), (1, .slice a n c)]).run Try.prog W = .ok (.agg #[.string N, .slice a n c]) W := by kernel_rfl

/-- A text of one's own, of a block since w1. -/
def textF (w1 : World) (l : List UInt8) : Fact := .row w1.heap.size l

/-- A file of one's own text, as a fact. -/
def fileF (w1 : World) (N : ByteArray) (l : List UInt8) : Fact := .sat (fun u W => ∃ a c, u = .agg #[.string N, .slice a l.length c] ∧ Row W w1.heap.size (.slice a l.length c) l) fun _ _ _ h hb => by
  obtain ⟨a, c, h1, h2⟩ := h
  exact ⟨a, c, h1, h2.below hb⟩

/-- A list that a call made, with a file of one's own text. -/
def putF (w1 : World) (n : Nm) (l : List UInt8) (G : Gf) : Fact := .sat (fun u W => ∃ z, Row W w1.heap.size z l ∧ Made w1 u (putA n (z, l) G) W) fun _ _ _ h hb => by
  obtain ⟨z, h1, h2⟩ := h
  exact ⟨z, h1.below hb, h2.below hb⟩

/-- The end of a Do that has put a text of its own. -/
theorem DoEnd.put {w w1 W : World} {v u : Value} {G : Gf} {op : AOp} {n : Nm} {l : List UInt8} (hb : Below w.heap.size w w1) (hF : Fls w1 v G) (hm : ∃ z, Row W w1.heap.size z l ∧ Made w1 u (putA n (z, l) G) W) (hp : putA n l (pr G) = doA op (pr G)) : DoEnd w v G op u W := by
  obtain ⟨z, hz, hm⟩ := hm
  refine ⟨⟨putA n (z, l) G, ⟨hm.row, fun p hp => ?_⟩, by rw [pr_put, hp], fun j hj => ?_⟩, hb.trans (hm.bel.mono hb.size)⟩
  · rcases mem_put.1 hp with rfl | ⟨hp, _⟩
    · exact row_lower0 hz
    · exact (hF.text p hp).below hm.bel
  · rcases hj with hj | ⟨p, hp, hj⟩
    · exact .inr (Nat.le_trans hb.size (hm.new j hj))
    · rcases mem_put.1 hp with rfl | ⟨hp, _⟩
      · exact .inr (Nat.le_trans hb.size (hz.lt hj).1)
      · exact .inl (.inr ⟨p, hp, hj⟩)

set_option maxHeartbeats 1000000 in
set_option maxRecDepth 20000 in
theorem dor_cut {w : World} {ba : Option Addr} {lb cb : Nat} {v : Value} {G : Gf} {n : Nm} {N M : ByteArray} {k : Nat} (h : Fls w v G) (hl : G.length ≤ 50000) (hN : nm n = .string N) (hri : Rise G) (hfit : Fit (pr G)) (hk : k ≤ 8388608) :
    Calls Try.prog 51 #[v, .agg (opR 2 N M (k : Int) (.slice ba lb cb))] w fun e w' => ∃ u, e = .returned u ∧ DoEnd w v G ⟨1, n, [], k, []⟩ u w' := by
  obtain ⟨w1, hw1⟩ : ∃ w1, w1 = w.alloc (.cells (opR 2 N M (k : Int) (.slice ba lb cb)) 83) := ⟨_, rfl⟩
  have hb1 : Below w.heap.size w w1 := by rw [hw1]; exact (Below.refl _ _).alloc (Nat.le_refl _) _
  have hF := h.below hb1
  have hbox : Blk w1 w.heap.size 83 (opR 2 N M (k : Int) (.slice ba lb cb)) := by rw [hw1]; exact Blk.new w _ _
  have HBox := Lib.hid hbox
  have HB1 := Lib.hid hb1
  have HF := Lib.hid hF
  have HFind := Lib.hid (find_any (n := n) hF (by omega))
  rw [hN] at HFind
  have HN := Lib.hid hN
  have HGl := Lib.hid hl
  have HRi := Lib.hid hri
  have HFit := Lib.hid hfit
  obtain ⟨va, vc, hv⟩ := h.slice
  subst hv
  obtain ⟨L, hL⟩ : ∃ L, L = G.length := ⟨_, rfl⟩
  rw [← hL] at HFind HF ⊢
  have HL := Lib.hid hL
  have HW1 := Lib.hid hw1
  rw [hw1] at HFind
  clear h hl hb1 hF hN hL hbox hri hfit
  go_enter Try.func51, Try.ntmps51
  go_wp2_with fail
  refine HFind.out.mono ?_
  rintro e w' ⟨⟨i, rfl, hat⟩, rfl⟩
  rcases hat with ⟨rfl, hg⟩ | ⟨j, x, rfl, hj, hg⟩
  · have HE : Hid (DoEnd w (.slice va L vc) G ⟨1, n, [], k, []⟩ (.slice va L vc) (w.alloc (.cells (opR 2 N M (k : Int) (.slice ba lb cb)) 83))) := Lib.hid (by rw [← HW1.out]; exact DoEnd.refl HB1.out HF.out (by rw [doA_none (by decide) (pr_get_none hg)]))
    clear hg hw1
    go_wp2
    go_ret
    exact ⟨_, rfl, HE.out⟩
  · have hlt : j < L := by have := (List.getElem?_eq_some_iff.1 hj).1; have := HL.out; omega
    have hf := HF.out
    rw [HL.out] at hf
    obtain ⟨g, cap, e, hgl, c0, c1⟩ := hf.cells j (n, x) hj
    simp at e
    obtain ⟨rfl, rfl⟩ := e
    have hxr : Row w1 0 x.1 x.2 := hf.text (n, x) (List.mem_of_getElem? hj)
    obtain ⟨xa, xc, hx, hxc⟩ := row_form hxr
    have hx8 : x.2.length ≤ 8388608 := (HFit.out _ (getA_mem (pr_get_some hg))).2
    simp only at c1
    rw [hx] at c1 hxr
    obtain ⟨xn, hxn⟩ : ∃ xn, xn = x.2.length := ⟨_, rfl⟩
    rw [← hxn] at c1 hx hxc hx8 hxr
    have HXr := Lib.hid hxr
    have HXn := Lib.hid hxn
    obtain ⟨b0, hb0⟩ : ∃ b0, b0 = w.heap.size := ⟨_, rfl⟩
    have HBox1 : Hid (Blk w1 b0 83 (opR 2 N M (k : Int) (.slice ba lb cb))) := Lib.hid (by rw [hb0]; exact HBox.out)
    have hbl := HBox1.out.lt
    have HX := Lib.hid hx
    have HC1 : Hid (w1.cell? ⟨g, j * 2 + 1, none⟩ = some (.slice xa xn xc)) := Lib.hid c1
    have HGlt := Lib.hid hgl
    have HBl := Lib.hid hbl
    have HLt := Lib.hid hlt
    have HG := Lib.hid hg
    have HW1b : Hid (w.alloc (.cells (opR 2 N M (k : Int) (.slice ba lb cb)) 83) = w1) := Lib.hid hw1.symm
    have hbx : ∀ i, w1.cell? ⟨b0, i, none⟩ = (opR 2 N M (k : Int) (.slice ba lb cb))[i]? := fun i => Blk.cell HBox1.out i
    have HBx := Lib.hid hbx
    clear hg hj hf c0 c1 hx hxn hgl hbl hw1 hxr hbx
    go_wp2_with fail
    rw [HW1b.out, ← hb0]
    have d3 : ∀ q, (w1.drewN q).cell? ⟨b0, 3, none⟩ = some (.int .i64 (k : Int)) := fun q => by show w1.cell? _ = _; rw [HBx.out]; rfl
    have e1 : ∀ q, (w1.drewN q).cell? ⟨g, j * 2 + 1, none⟩ = some (.slice xa xn xc) := fun q => HC1.out
    have hidx : ∀ W, (Instr.indexAt 62 (.slice (some ⟨g, 0, none⟩) L vc) (.int .i64 (j : Int))).run Try.prog W = .ok (.pointer (some ⟨g, j * 2, none⟩)) W := fun W => files_index W g L vc j HLt.out
    obtain ⟨J, hJ⟩ : ∃ J, J = j * 2 := ⟨_, rfl⟩
    rw [← hJ] at e1 hidx HC1
    have HIdx : Hid (∀ W, (Instr.indexAt 62 (.slice (some ⟨g, 0, none⟩) L vc) (.int .i64 (j : Int))).run Try.prog W = .ok (.pointer (some ⟨g, J, none⟩)) W) := Lib.hid hidx
    clear hb0 hJ
    by_cases hkx : k < xn
    · have i1 : decide ((k : Int) < (xn : Int)) = true := by simp; omega
      have HKx := Lib.hid (Nat.le_of_lt hkx)
      have HXc := Lib.hid hxc
      have HE1 : Hid (∀ u W, (∃ z, Row W w1.heap.size z (x.2.take k) ∧ Made w1 u (putA n (z, x.2.take k) G) W) → DoEnd w (.slice (some ⟨g, 0, none⟩) L vc) G ⟨1, n, [], k, []⟩ u W) := Lib.hid fun u W hm => DoEnd.put HB1.out HF.out hm (by rw [doA_cut (pr_get_some HG.out)])
      clear hxc hlt
      go_quiet (fail)
      clear d3 e1 hidx
      go_wp2_with fail
      all_goals try (exfalso; simp_all; done)
      clear i1 hkx
      have hG : ∀ W W' : World, Below w1.heap.size w1 W → Below W.heap.size W W' → Below w1.heap.size w1 W' := fun W W' h h' => h.trans (h'.mono h.size)
      have hcell : ∀ (W : World), Below w1.heap.size w1 W → ∀ (b i : Nat) (u : Value), b < w1.heap.size → w1.cell? ⟨b, i, none⟩ = some u → W.cell? ⟨b, i, none⟩ = some u := fun W hW b i u hb hu => by rw [hW.cell (p := ⟨b, i, none⟩) hb]; exact hu
      have htl : (x.2.take k).length = k := by rw [List.length_take]; have := HXn.out; have := HKx.out; omega
      refine region_tail_to 15 _ [(94, .is (.slice (some ⟨g, 0, none⟩) L vc)), (95, .is (.pointer (some ⟨b0, 1, none⟩))), (96, .is (.string N)), (97, .lit w1.heap.size), (98, .is (.slice (some ⟨g, 0, none⟩) L vc)), (99, .is (.int .i64 (j : Int))), (100, .is (.pointer (some ⟨g, J, none⟩))), (101, .is (.pointer (some ⟨g, J + 1, none⟩))), (102, .is (.slice xa xn xc)), (103, .is (.pointer (some ⟨b0, 3, none⟩))), (104, .is (.int .i64 (k : Int))), (105, .is (.slice xa k xc)), (106, textF w1 (x.2.take k)), (107, fileF w1 N (x.2.take k)), (108, putF w1 n (x.2.take k) G)] [108]
        (fun W => Below w1.heap.size w1 W) (by kernel_rfl) (by kernel_rfl) (by kernel_rfl) (by kernel_rfl) (by kernel_rfl) rfl rfl rfl (by intro k hk h; cases h; cases hk) (by kernel_rfl) ((below_draws (Below.refl _ _) _).drew) ?_ ?_
      · refine ⟨?c0, ?c1, ?c2, ?c3, ?c4, ?c5, ?c6, ?c7, ?c8, ?c9, ?c10, ?c11, ?c12, ?c13, ?c14, trivial⟩
        case c0 => exact ask_copy (guard_none rfl) (.tmp 0) (.inl rfl) (by intro k hk; cases hk; rfl)
        case c1 => exact ask_field (guard_none rfl) _ (.tmp 3) 1 (.pointer (some ⟨b0, 0, none⟩)) (.pointer (some ⟨b0, 1, none⟩)) rfl rfl (by intro k hk; cases hk; rfl) (fun W => by kernel_rfl)
        case c2 => exact ask_load (guard_none rfl) _ (.tmp 95) (.pointer (some ⟨b0, 1, none⟩)) (.string N) rfl rfl (by intro k hk; cases hk; rfl) (fun W hW => load_one (fun W => by kernel_rfl) W _ _ (hcell W hW _ _ _ HBl.out (by rw [HBx.out]; rfl)))
        case c3 => exact ask_build_lit hG (guard_none rfl) w1.heap.size (fun W hW => hW.size) rfl (by intro k hk; cases hk; rfl)
        case c4 => exact ask_copy (guard_none rfl) (.tmp 0) (.inl rfl) (by intro k hk; cases hk; rfl)
        case c5 => exact ask_copy (guard_none rfl) (.tmp 5) (.inl rfl) (by intro k hk; cases hk; rfl)
        case c6 => exact ask_index (guard_none rfl) _ (.tmp 98) (.tmp 99) (.slice (some ⟨g, 0, none⟩) L vc) (.int .i64 (j : Int)) (.pointer (some ⟨g, J, none⟩)) rfl rfl rfl (by intro k hk; cases hk; rfl) HIdx.out
        case c7 => exact ask_field (guard_none rfl) _ (.tmp 100) 1 (.pointer (some ⟨g, J, none⟩)) (.pointer (some ⟨g, J + 1, none⟩)) rfl rfl (by intro k hk; cases hk; rfl) (fun W => by kernel_rfl)
        case c8 => exact ask_load (guard_none rfl) _ (.tmp 101) (.pointer (some ⟨g, J + 1, none⟩)) (.slice xa xn xc) rfl rfl (by intro k hk; cases hk; rfl) (fun W hW => load_one (fun W => by kernel_rfl) W _ _ (hcell W hW _ _ _ HGlt.out HC1.out))
        case c9 => exact ask_field (guard_none rfl) _ (.tmp 3) 3 (.pointer (some ⟨b0, 0, none⟩)) (.pointer (some ⟨b0, 3, none⟩)) rfl rfl (by intro k hk; cases hk; rfl) (fun W => by kernel_rfl)
        case c10 => exact ask_load (guard_none rfl) _ (.tmp 103) (.pointer (some ⟨b0, 3, none⟩)) (.int .i64 (k : Int)) rfl rfl (by intro k hk; cases hk; rfl) (fun W hW => load_one (fun W => by kernel_rfl) W _ _ (hcell W hW _ _ _ HBl.out (by rw [HBx.out]; rfl)))
        case c11 => exact ask_slice (guard_none rfl) _ (.tmp 102) none (some (.tmp 104)) none (.slice xa xn xc) (.slice xa k xc) none (some (.int .i64 (k : Int))) none rfl rfl rfl rfl rfl (by intro k hk; cases hk; rfl) (fun W => slice_to xa xn xc k (by have := HKx.out; have := HXc.out; omega) W)
        case c12 => exact ask_append_lit hG (guard_none rfl) (.tmp 97) (.tmp 105) w1.heap.size (x.2.take k) rfl rfl rfl (fun y W hW hk => by
          have e105 : y 105 = .slice xa k xc := hk 105 rfl
          show Bys W (y 105) _
          rw [e105]
          exact ((HXr.out.below hW).take k HKx.out).bys) (by rw [htl]; omega) (by intro k hk; cases hk; exact .inl rfl)
        case c13 => exact ask_grow hG (guard_none rfl) (fun y W hW hk => by
          have e96 : y 96 = .string N := hk 96 rfl
          have h106 : Row W w1.heap.size (y 106) (x.2.take k) := hk 106 rfl
          obtain ⟨za, zc, hz⟩ := slice_of_row h106
          rw [hz] at h106
          refine gives_value (v := .agg #[.string N, .slice za (x.2.take k).length zc]) (w' := W) ?_ ⟨Below.refl _ _, fun k hk => by cases hk; exact ⟨za, zc, rfl, h106⟩⟩
          clear h106
          revert hz
          generalize (x.2.take k).length = m
          intro hz
          have hr := build_file W N za m zc
          simp [execOp, evalBy, e96, hz, hr, Result.andThen])
        case c14 => exact ask_call_by hG (guard_none rfl) _ _ _ (putF w1 n (x.2.take k) G) rfl (by kernel_rfl) (by intro k hk; cases hk; rfl) (fun y W hW hk => by
          have e94 : y 94 = .slice (some ⟨g, 0, none⟩) L vc := hk 94 rfl
          obtain ⟨za, zc, e107, hz⟩ : ∃ a c, y 107 = .agg #[.string N, .slice a (x.2.take k).length c] ∧ Row W w1.heap.size (.slice a (x.2.take k).length c) (x.2.take k) := hk 107 rfl
          have h := with_any (n := n) (xa := za) (xn := (x.2.take k).length) (xc := zc) (t := x.2.take k) (HF.out.below hW) HGl.out
          rw [HN.out] at h
          show Calls _ _ #[y 94, y 107] W _
          rw [e94, e107]
          exact h.mono fun e w' h => by
            obtain ⟨u, h1, h2⟩ := h
            exact ⟨u, h1, ⟨_, hz.below h2.bel, h2.row, fun k hk => Nat.le_trans hW.size (h2.new k hk), hG _ _ hW h2.bel⟩, h2.bel⟩)
      · intro a' W hW hd' hs' hf'
        have t108 : ∃ z, Row W w1.heap.size z (x.2.take k) ∧ Made w1 (a'.tmps.getD 108 undef) (putA n (z, x.2.take k) G) W := hf' 108 rfl
        obtain ⟨us, hus, ha'⟩ := act_open 130 a' hs' hd'
        rw [← hus] at t108
        have HE := Lib.hid (HE1.out _ _ t108)
        obtain ⟨z, -, hm⟩ := t108
        obtain ⟨ra, rc, hr⟩ := fls_row_slice hm.row
        have el : ((List.range 130).map us).toArray = #[us 0, us 1, us 2, us 3, us 4, us 5, us 6, us 7, us 8, us 9, us 10, us 11, us 12, us 13, us 14, us 15, us 16, us 17, us 18, us 19, us 20, us 21, us 22, us 23, us 24, us 25, us 26, us 27, us 28, us 29, us 30, us 31, us 32, us 33, us 34, us 35, us 36, us 37, us 38, us 39, us 40, us 41, us 42, us 43, us 44, us 45, us 46, us 47, us 48, us 49, us 50, us 51, us 52, us 53, us 54, us 55, us 56, us 57, us 58, us 59, us 60, us 61, us 62, us 63, us 64, us 65, us 66, us 67, us 68, us 69, us 70, us 71, us 72, us 73, us 74, us 75, us 76, us 77, us 78, us 79, us 80, us 81, us 82, us 83, us 84, us 85, us 86, us 87, us 88, us 89, us 90, us 91, us 92, us 93, us 94, us 95, us 96, us 97, us 98, us 99, us 100, us 101, us 102, us 103, us 104, us 105, us 106, us 107, us 108, us 109, us 110, us 111, us 112, us 113, us 114, us 115, us 116, us 117, us 118, us 119, us 120, us 121, us 122, us 123, us 124, us 125, us 126, us 127, us 128, us 129] := rfl
        rw [el] at ha'
        subst ha'
        rw [hr] at HE ⊢
        clear hus hm el hf' hs' hd' hW hG hcell hr htl
        go_wp2
        go_ret
        exact ⟨_, rfl, HE.out⟩
    · have i1 : decide ((k : Int) < (xn : Int)) = false := by simp; omega
      have hE : ∀ q, DoEnd w (.slice (some ⟨g, 0, none⟩) L vc) G ⟨1, n, [], k, []⟩ (.slice (some ⟨g, 0, none⟩) L vc) (w1.drewN q) := fun q => DoEnd.refl (below_draws HB1.out q) (HF.out.below (below_draws (Below.refl _ _) q)) (by
        rw [doA_cut (pr_get_some HG.out), List.take_of_length_le (by have := HXn.out; omega), show putA n x.2 (pr G) = pr G from put_self ((rise_map (fun y : Value × List UInt8 => y.2)).2 HRi.out) (pr_get_some HG.out)])
      have HE := Lib.hid hE
      clear hxc hlt hE
      go_quiet (fail)
      go_wp2
      all_goals first
        | (exfalso; simp_all; done)
        | (go_ret; exact ⟨_, rfl, HE.out _⟩)
end Go.Proofs.Ytabddeoeihlnnaa
