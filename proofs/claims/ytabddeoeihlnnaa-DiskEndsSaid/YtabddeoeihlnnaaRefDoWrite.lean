/- The reference's Do: a write. -/
import Derived.Test.YtabddeoeihlnnaaRefDoCut
import Derived.Test.YtabddeoeihlnnaaLate
namespace Go.Proofs.Ytabddeoeihlnnaa
open Go.RowKit Go.Maps DiskMath Reg

def lenV : Value → Nat
  | .slice _ n _ => n
  | _ => 0

theorem row_of_lit {w : World} {B g : Nat} (hB : B ≤ g) (hg : w.heap[g]? = some (.cells #[] 5 (0, 0))) : Row w B (.slice (some ⟨g, 0, none⟩) 0 0) [] :=
  ⟨rfl, .inr ⟨g, 0, #[], rfl, hB, hg, Nat.le_refl _, by unfold maxLen; omega, rfl, rfl⟩⟩

theorem Row.lower {w : World} {B B' : Nat} {v : Value} {l : List UInt8} (h : Row w B v l) (hB : B' ≤ B) : Row w B' v l := by
  refine ⟨h.1, ?_⟩
  rcases h.2 with h0 | ⟨g, cap, cur, h1, h2, h3⟩
  · exact .inl h0
  · exact .inr ⟨g, cap, cur, h1, Nat.le_trans hB h2, h3⟩

theorem only_none {w W : World} (h : OnlyS (fun k => (Value.slice none 0 0).ownBlock = some k) w W) : Below w.heap.size w W :=
  ⟨h.os, h.tape, h.output, h.size, fun k hk => h.block k hk (by simp [Value.ownBlock])⟩

theorem lay_after (t : List UInt8) (a : Nat) (b : List UInt8) (hb : b ≠ []) (z : Nat) (hz : z = a - t.length) : (t ++ List.replicate z 0).take a ++ b ++ (t ++ List.replicate z 0).drop (a + b.length) = layT t a b := by
  subst hz
  unfold layT
  rw [if_neg hb]
  congr 1
  rcases Nat.le_total (a + b.length) t.length with h | h
  · rw [List.drop_append_of_le_length h, show a - t.length = 0 by omega]
    simp
  · rw [List.drop_of_length_le (l := t) (by omega), List.drop_of_length_le]
    simp
    omega

set_option maxHeartbeats 1000000 in
set_option maxRecDepth 20000 in
theorem dor_write {w : World} {v : Value} {G : Gf} {n : Nm} {N M : ByteArray} {a : Nat} {ba : Option Addr} {lb cb : Nat} {b : List UInt8} (h : Fls w v G) (hl : G.length ≤ 50000) (hN : nm n = .string N) (hfit : Fit (pr G)) (ha : a ≤ 1048576) (hb : Bys w (.slice ba lb cb) b) (hlb : b.length = lb) (hb4 : lb ≤ 4194304) :
    Calls Try.prog 51 #[v, .agg (opR 1 N M (a : Int) (.slice ba lb cb))] w fun e w' => ∃ u, e = .returned u ∧ DoEnd w v G ⟨0, n, [], a, b⟩ u w' := by
  obtain ⟨w1, hw1⟩ : ∃ w1, w1 = w.alloc (.cells (opR 1 N M (a : Int) (.slice ba lb cb)) 83) := ⟨_, rfl⟩
  have hb1 : Below w.heap.size w w1 := by rw [hw1]; exact (Below.refl _ _).alloc (Nat.le_refl _) _
  have hF := h.below hb1
  have hbox : Blk w1 w.heap.size 83 (opR 1 N M (a : Int) (.slice ba lb cb)) := by rw [hw1]; exact Blk.new w _ _
  have HBox := Lib.hid hbox
  have HB1 := Lib.hid hb1
  have HF := Lib.hid hF
  have HBb := Lib.hid (hb.below (Nat.le_refl _) hb1)
  have HLb := Lib.hid hlb
  have HFind := Lib.hid (find_any (n := n) hF (by omega))
  rw [hN] at HFind
  have HN := Lib.hid hN
  have HGl := Lib.hid hl
  have HFit := Lib.hid hfit
  obtain ⟨va, vc, hv⟩ := h.slice
  subst hv
  obtain ⟨L, hL⟩ : ∃ L, L = G.length := ⟨_, rfl⟩
  rw [← hL] at HFind HF ⊢
  have HL := Lib.hid hL
  obtain ⟨b0, hb0⟩ : ∃ b0, b0 = w.heap.size := ⟨_, rfl⟩
  have HBox1 : Hid (Blk w1 b0 83 (opR 1 N M (a : Int) (.slice ba lb cb))) := Lib.hid (by rw [hb0]; exact HBox.out)
  have HBl := Lib.hid HBox1.out.lt
  have hbx : ∀ i, w1.cell? ⟨b0, i, none⟩ = (opR 1 N M (a : Int) (.slice ba lb cb))[i]? := fun i => Blk.cell HBox1.out i
  have HBx := Lib.hid hbx
  rw [hw1] at HFind
  have HW1b : Hid (w.alloc (.cells (opR 1 N M (a : Int) (.slice ba lb cb)) 83) = w1) := Lib.hid hw1.symm
  have HB0 := Lib.hid hb0
  clear h hl hb1 hF hN hL hbox hfit hb hlb hw1 hb0 hbx
  go_enter Try.func51, Try.ntmps51
  go_wp2_with fail
  refine HFind.out.mono ?_
  rintro e w' ⟨⟨i, rfl, hat⟩, rfl⟩
  obtain ⟨t, ht⟩ : ∃ t, t = (getA n (pr G)).getD [] := ⟨_, rfl⟩
  have hE1 : ∀ u W, (∃ z, Row W w1.heap.size z (layT t a b) ∧ Made w1 u (putA n (z, layT t a b) G) W) → DoEnd w (.slice va L vc) G ⟨0, n, [], a, b⟩ u W := fun u W hm => DoEnd.put HB1.out HF.out hm (by rw [ht]; rfl)
  have HE1 := Lib.hid hE1
  have ht8 : t.length ≤ 8388608 := by rw [ht]; exact fit_get HFit.out n
  have HT := Lib.hid ht
  have HT8 := Lib.hid ht8
  clear hE1 ht ht8
  rcases hat with ⟨rfl, hg⟩ | ⟨j, x, rfl, hj, hg⟩
  case' inl =>
    have ht0 : t = [] := by rw [HT.out, pr_get_none hg]; rfl
    rw [HW1b.out, ← HB0.out]
    have HWb0 := Lib.hid (Below.refl w1.heap.size w1)
    have HR6 : Hid (Row w1 w1.heap.size (.slice none t.length 0) t) := Lib.hid (by rw [ht0]; exact row_nil _ _)
    have e6 : (Value.slice none 0 0) = .slice none t.length 0 := by rw [ht0]; rfl
    obtain ⟨l, hl⟩ : ∃ l, l = t.length := ⟨_, rfl⟩
    have hl0 : l = 0 := by rw [hl, ht0]; rfl
    subst hl0
    rw [← hl] at HR6
    have HLt := Lib.hid hl
    have HS : Hid (Row w1 w1.heap.size (.slice none 0 0) t) := HR6
    have p0 : w1.cell? ⟨b0, 0, none⟩ = some (.int .i64 1) := by rw [HBx.out]; rfl
    clear hg ht0 e6 hl HR6
    go_wp2
  case' inr =>
    have hlt : j < L := by have := (List.getElem?_eq_some_iff.1 hj).1; have := HL.out; omega
    have hf := HF.out
    rw [HL.out] at hf
    obtain ⟨g, cap, e, hgl, c0, c1⟩ := hf.cells j (n, x) hj
    simp at e
    obtain ⟨e1, -⟩ := e
    have hxr : Row w1 0 x.1 x.2 := hf.text (n, x) (List.mem_of_getElem? hj)
    have htx : t = x.2 := by rw [HT.out, pr_get_some hg]; rfl
    obtain ⟨xa, xc, hx⟩ := slice_of_row hxr
    simp only at c1
    rw [← htx] at hx hxr
    have A1 := Lib.hid (append_at (Nat.le_refl _) (row_nil w1 w1.heap.size) hxr.bys (by have := HT8.out; simp; omega))
    rw [hx] at A1
    rw [hx] at c1
    obtain ⟨l, hl⟩ : ∃ l, l = t.length := ⟨_, rfl⟩
    rw [← hl] at A1 c1
    have HLt := Lib.hid hl
    rw [HW1b.out, ← HB0.out]
    have hidx : ∀ W, (Instr.indexAt 62 (.slice va L vc) (.int .i64 (j : Int))).run Try.prog W = .ok (.pointer (some ⟨g, j * 2, none⟩)) W := fun W => by rw [e1]; exact files_index W g L vc j hlt
    clear e1
    obtain ⟨J, hJ⟩ : ∃ J, J = j * 2 := ⟨_, rfl⟩
    rw [← hJ] at c1 hidx
    have i0 : (0 : Int) ≤ (j : Int) := Int.natCast_nonneg _
    have p0 : w1.cell? ⟨b0, 0, none⟩ = some (.int .i64 1) := by rw [HBx.out]; rfl
    clear hg hj hf c0 hx hxr htx hgl hlt hl hJ
    go_wp2_with (at_builtin; refine wpList_append_by rfl _ _ 30 rfl _ _ rfl rfl _ A1.out ?_; rintro v6 w2 ⟨q1, q2, -⟩; (have HS := Lib.hid q1); (have HWb0 := Lib.hid (only_none q2)); clear q1 q2)
  all_goals
    go_loopw [6] (fun s6 wr => ∃ (z m : Nat) (ra : Option Addr) (rc : Nat), s6 = .slice ra m rc ∧ Hid (t.length + z = m) ∧ Hid (z ≤ a - t.length) ∧ Hid (lb = 0 → z = 0) ∧ Hid (Row wr w1.heap.size s6 (t ++ List.replicate z 0)) ∧ Hid (Below w1.heap.size w1 wr)) (fun s6 _ => a - lenV s6)
    case atStart =>
      obtain ⟨ra, rc, hr⟩ := slice_of_row HS.out
      exact ⟨0, t.length, ra, rc, hr, Lib.hid rfl, Lib.hid (Nat.zero_le _), Lib.hid fun _ => rfl, Lib.hid (by simpa using HS.out), HWb0⟩
    case round =>
      obtain ⟨z, m, ra, rc, rfl, HM, HZa, HZb, HR, HBel⟩ := hrel
      have p3 : wr.cell? ⟨b0, 3, none⟩ = some (.int .i64 (a : Int)) := by rw [HBel.out.cell (p := ⟨b0, 3, none⟩) HBl.out, HBx.out]; rfl
      have p4 : wr.cell? ⟨b0, 4, none⟩ = some (.slice ba lb cb) := by rw [HBel.out.cell (p := ⟨b0, 4, none⟩) HBl.out, HBx.out]; rfl
      have hm9 : m ≤ 10000000 := by have := HM.out; have := HZa.out; have := HT8.out; omega
      by_cases hlb : lb = 0
      · have i2 : decide ((0 : Int) < (lb : Int)) = false := by simp; omega
        have hb0' : b = [] := List.eq_nil_of_length_eq_zero (by have := HLb.out; omega)
        have hz0 : z = 0 := HZb.out hlb
        have hlay : layT t a b = t := by unfold layT; rw [if_pos hb0']
        have HZ : Hid (Row wr w1.heap.size (.slice ra m rc) (layT t a b)) := Lib.hid (by
          have h := HR.out
          rw [hz0] at h
          rw [hlay]
          simpa using h)
        have HBelW := HBel
        clear hb0' hz0 hlay HR HM HZa HZb hm9
        by_cases hma : m < a
        · have i1 : decide ((m : Int) < (a : Int)) = true := by simp; omega
          have p1 : wr.cell? ⟨b0, 1, none⟩ = some (.string N) := by rw [HBelW.out.cell (p := ⟨b0, 1, none⟩) HBl.out, HBx.out]; rfl
          have HWith : Hid (Calls Try.prog 58 #[.slice va L vc, .agg #[.string N, .slice ra m rc]] wr fun e w' => ∃ u, e = .returned u ∧ Made wr u (putA n (.slice ra m rc, layT t a b) G) w') := Lib.hid (by
            have h := with_any (n := n) (xa := ra) (xn := m) (xc := rc) (t := layT t a b) (HF.out.below HBelW.out) HGl.out
            rw [HN.out] at h
            exact h)
          go_wp2_with fail
          refine HWith.out.mono ?_
          rintro e w' ⟨u, rfl, hm⟩
          obtain ⟨ra', rc', hr⟩ := fls_row_slice hm.row
          have HE := Lib.hid (HE1.out u w' ⟨_, HZ.out.below hm.bel, hm.row, fun k hk => Nat.le_trans HBelW.out.size (hm.new k hk), HBelW.out.trans (hm.bel.mono HBelW.out.size)⟩)
          rw [hr] at HE ⊢
          clear hm hr
          go_wp2
          go_ret
          exact ⟨_, rfl, HE.out⟩
        · have i1 : decide ((m : Int) < (a : Int)) = false := by simp; omega
          have p1 : wr.cell? ⟨b0, 1, none⟩ = some (.string N) := by rw [HBelW.out.cell (p := ⟨b0, 1, none⟩) HBl.out, HBx.out]; rfl
          have HWith : Hid (Calls Try.prog 58 #[.slice va L vc, .agg #[.string N, .slice ra m rc]] wr fun e w' => ∃ u, e = .returned u ∧ Made wr u (putA n (.slice ra m rc, layT t a b) G) w') := Lib.hid (by
            have h := with_any (n := n) (xa := ra) (xn := m) (xc := rc) (t := layT t a b) (HF.out.below HBelW.out) HGl.out
            rw [HN.out] at h
            exact h)
          go_wp2_with fail
          refine HWith.out.mono ?_
          rintro e w' ⟨u, rfl, hm⟩
          obtain ⟨ra', rc', hr⟩ := fls_row_slice hm.row
          have HE := Lib.hid (HE1.out u w' ⟨_, HZ.out.below hm.bel, hm.row, fun k hk => Nat.le_trans HBelW.out.size (hm.new k hk), HBelW.out.trans (hm.bel.mono HBelW.out.size)⟩)
          rw [hr] at HE ⊢
          clear hm hr
          go_wp2
          go_ret
          exact ⟨_, rfl, HE.out⟩
      · have i2 : decide (0 < lb) = true := by simp; omega
        by_cases hma : m < a
        · have i1 : decide ((m : Int) < (a : Int)) = true := by simp; omega
          have HA1 : Hid (Below wr.heap.size wr (wr.alloc (.cells #[.int .u8 0] 5))) := Lib.hid ((Below.refl _ _).alloc (Nat.le_refl _) _)
          have A1 := Lib.hid (append_at (x := .slice (some ⟨wr.heap.size, 0, none⟩) 1 1) (l' := [0]) (Nat.le_trans HBel.out.size HA1.out.size) (HR.out.below HA1.out) (byte_bys wr 0) (by have := HM.out; have := HZa.out; simp; omega))
          have HMa := Lib.hid hma
          have HLz := Lib.hid hlb
          clear hm9 hlb
          go_wp2_with (at_builtin; refine wpList_append_by rfl _ _ 30 rfl _ _ rfl rfl _ A1.out ?_; rintro v' w3 ⟨q1, q2, -⟩; (have Q1 := Lib.hid q1); (have Q2 := Lib.hid q2); clear q1 q2)
          obtain ⟨na, nc, hn'⟩ := slice_of_row Q1.out
          subst hn'
          have HLn : Hid ((t ++ List.replicate z 0 ++ [0]).length = m + 1) := Lib.hid (by have := HM.out; simp; omega)
          rw [HLn.out] at Q1 ⊢
          go_wp2
          go_roundw
          case rel =>
            refine ⟨z + 1, m + 1, na, nc, rfl, Lib.hid (by have := HM.out; omega), Lib.hid (by have := HM.out; have := HMa.out; omega), Lib.hid (fun h => absurd h HLz.out), Lib.hid ?_, Lib.hid ?_⟩
            · have e : t ++ List.replicate (z + 1) 0 = t ++ List.replicate z 0 ++ [0] := by rw [List.replicate_succ', List.append_assoc]
              rw [e]
              exact Q1.out
            · have hx := HBel.out.trans (HA1.out.mono HBel.out.size)
              exact ⟨Q2.out.os.trans hx.os, Q2.out.tape.trans hx.tape, Q2.out.output.trans hx.output, Nat.le_trans hx.size Q2.out.size, fun k hk => (Q2.out.block k (Nat.lt_of_lt_of_le hk hx.size) fun e => by have := (HR.out.lt e).1; omega).trans (hx.block k hk)⟩
          case measure => simp [lenV]; have := HMa.out; omega
        · have i1 : decide ((m : Int) < (a : Int)) = false := by simp; omega
          have hz : z = a - t.length := by have := HM.out; have := HZa.out; omega
          have hbn : b ≠ [] := fun e => hlb (by have := HLb.out; rw [e] at this; simpa using this.symm)
          obtain ⟨t1, ht1⟩ : ∃ t1, t1 = t ++ List.replicate z 0 := ⟨_, rfl⟩
          have HLay : Hid (t1.take a ++ b ++ t1.drop (a + lb) = layT t a b) := Lib.hid (by rw [ht1, ← HLb.out]; exact lay_after t a b hbn z hz)
          have hr1 := HR.out
          rw [← ht1] at hr1
          have HT1 : Hid (t1.length = m) := Lib.hid (by rw [ht1]; have := HM.out; simp; omega)
          have HMa : Hid (a ≤ m) := Lib.hid (by omega)
          obtain ⟨ra2, rc2, hrc, hrc2⟩ := row_form hr1
          have HRc : Hid (m ≤ rc) := Lib.hid (by
            have := HT1.out
            simp at hrc
            omega)
          have HR1 := Lib.hid hr1
          have hbl0 : Below wr.heap.size wr (wr.alloc (.cells #[] 5)) := (Below.refl _ _).alloc (Nat.le_refl _) _
          have HBl0 := Lib.hid hbl0
          have p3' : (wr.alloc (.cells #[] 5)).cell? ⟨b0, 3, none⟩ = some (.int .i64 (a : Int)) := by rw [hbl0.cell (World.block_lt_of_cell? wr _ p3)]; exact p3
          have p4' : (wr.alloc (.cells #[] 5)).cell? ⟨b0, 4, none⟩ = some (.slice ba lb cb) := by rw [hbl0.cell (World.block_lt_of_cell? wr _ p4)]; exact p4
          have hm9' : m ≤ 10000000 := hm9
          have hb4' : lb ≤ 4194304 := hb4
          have i1n : decide (m < a) = false := by simp; omega
          clear ht1 hz hbn hr1 hrc hrc2 HR HM HZa HZb hbl0 hlb
          by_cases hq : a + lb < m
          · have i4 : decide ((a : Int) + (lb : Int) < (m : Int)) = true := by simp; omega
            have i5 : decide (a + lb < m) = true := by simp; omega
            obtain ⟨xa2, hsl, hby⟩ := bys_from ra m rc (a + lb) t1 (wr.alloc (.cells #[] 5)) (HR1.out.bys.below (Nat.le_refl _) HBl0.out) HT1.out HRc.out (by omega)
            have hsl2 : ∀ W', (Instr.sliceAt 30 (.slice ra m rc) (some (.int .i64 ((a : Int) + (lb : Int)))) none none).run Try.prog W' = .ok (.slice xa2 (m - (a + lb)) (rc - (a + lb))) W' := fun W' => by
              rw [show (a : Int) + (lb : Int) = ((a + lb : Nat) : Int) by omega]
              exact hsl W'
            obtain ⟨xn2, hxn2⟩ : ∃ xn2, xn2 = m - (a + lb) := ⟨_, rfl⟩
            obtain ⟨xc2, hxc2⟩ : ∃ xc2, xc2 = rc - (a + lb) := ⟨_, rfl⟩
            rw [← hxn2, ← hxc2] at hby hsl2
            have A1 := Lib.hid (append_lit (B := w1.heap.size) (w := wr.alloc (.cells #[] 5)) (g := wr.heap.size) HBel.out.size (heap_alloc_new wr _) hby (by rw [List.length_drop]; have := HT1.out; omega))
            clear hsl hby hxn2 hxc2
            go_wp2_with (at_builtin; refine wpList_append_by rfl _ _ 30 rfl _ _ rfl rfl _ A1.out ?_; rintro v7 wS ⟨q1, q2⟩; (have Q1 := Lib.hid q1); (have Q2 := Lib.hid q2); clear q1 q2)
            obtain ⟨sa, sc, hs7⟩ := slice_of_row Q1.out
            obtain ⟨sn, hsn⟩ : ∃ sn, sn = (t1.drop (a + lb)).length := ⟨_, rfl⟩
            rw [← hsn] at hs7
            subst hs7
            have HB7 : Hid (Below w1.heap.size w1 wS) := Lib.hid ((HBel.out.trans (HBl0.out.mono HBel.out.size)).trans (Q2.out.mono (HBel.out.trans (HBl0.out.mono HBel.out.size)).size))
            have HR7 : Hid (Row wS w1.heap.size (.slice ra m rc) t1) := Lib.hid ((HR1.out.below HBl0.out).below Q2.out)
            have HT7 : Hid (Bys wS (.slice sa sn sc) (t1.drop (a + lb))) := Lib.hid Q1.out.bys
            clear hsl2 i4 i5 hsn i1 i1n i2 p3' p4' hq hma
            have hG : ∀ W W' : World, Below wS.heap.size wS W → Below W.heap.size W W' → Below wS.heap.size wS W' := fun W W' h h' => h.trans (h'.mono h.size)
            have hGg : ∀ (W W' : World) (row : Option Nat), Below wS.heap.size wS W → W.grownBy W' row → (∀ k, row = some k → wS.heap.size ≤ k) → Below wS.heap.size wS W' := fun W W' row h hg hk => ⟨hg.os.trans h.os, hg.tape.trans h.tape, hg.output.trans h.output, Nat.le_trans h.size hg.size, fun k hk' => (hg.block k (Nat.lt_of_lt_of_le hk' h.size) (fun e => by have := hk k e.symm; omega)).trans (h.block k hk')⟩
            have hcell : ∀ (W : World), Below wS.heap.size wS W → ∀ (i : Nat) (u : Value), (opR 1 N M (a : Int) (.slice ba lb cb))[i]? = some u → W.cell? ⟨b0, i, none⟩ = some u := fun W hW i u hu => by rw [(HB7.out.trans (hW.mono HB7.out.size)).cell (p := ⟨b0, i, none⟩) HBl.out, HBx.out]; exact hu
            refine region_late_by 11 _ _ rfl [(62, .lit wS.heap.size), (63, .is (.slice ra m rc)), (64, .is (.pointer (some ⟨b0, 3, none⟩))), (65, .is (.int .i64 (a : Int))), (66, .is (.slice ra a rc)), (67, .row wS.heap.size (t1.take a)), (68, .is (.pointer (some ⟨b0, 4, none⟩))), (69, .is (.slice ba lb cb)), (70, .row wS.heap.size (t1.take a ++ b)), (71, .is (.slice sa sn sc)), (72, .row wS.heap.size (t1.take a ++ b ++ t1.drop (a + lb)))] [0, 3, 72]
              (fun W => Below wS.heap.size wS W) (by kernel_rfl) (by kernel_rfl) (by kernel_rfl) (by kernel_rfl) ?_ rfl rfl rfl (by kernel_rfl) (Below.refl _ _).drew ?_ ?_
            · intro q fq hq
              by_cases h4 : q = 62
              · subst h4
                exact .inl (by kernel_rfl)
              · exact .inl (lookup_all 62 (by kernel_rfl) hq h4)
            · refine ⟨?c0, ?c1, ?c2, ?c3, ?c4, ?c5, ?c6, ?c7, ?c8, ?c9, ?c10, trivial⟩
              case c0 => exact Asked.late (ask_build_lit hG (guard_none rfl) wS.heap.size (fun W hW => hW.size) rfl (by intro k hk; cases hk; rfl))
              case c1 => exact Asked.late (ask_copy (guard_none rfl) (.tmp 6) (.inl rfl) (by intro k hk; cases hk; rfl))
              case c2 => exact Asked.late (ask_field (guard_none rfl) _ (.tmp 3) 3 (.pointer (some ⟨b0, 0, none⟩)) (.pointer (some ⟨b0, 3, none⟩)) rfl rfl (by intro k hk; cases hk; rfl) (fun W => by kernel_rfl))
              case c3 => exact Asked.late (ask_load (guard_none rfl) _ (.tmp 64) (.pointer (some ⟨b0, 3, none⟩)) (.int .i64 (a : Int)) rfl rfl (by intro k hk; cases hk; rfl) (fun W hW => load_one (fun W => by kernel_rfl) W _ _ (hcell W hW 3 _ rfl)))
              case c4 => exact Asked.late (ask_slice (guard_none rfl) _ (.tmp 63) none (some (.tmp 65)) none (.slice ra m rc) (.slice ra a rc) none (some (.int .i64 (a : Int))) none rfl rfl rfl rfl rfl (by intro k hk; cases hk; rfl) (fun W => slice_to ra m rc a (by have := HMa.out; have := HRc.out; omega) W))
              case c5 =>
                refine Asked.late ?_
                exact ask_append_lit hG (guard_none rfl) (.tmp 62) (.tmp 66) wS.heap.size (t1.take a) rfl rfl rfl (fun y W hW hk => by
                have e66 : y 66 = .slice ra a rc := hk 66 rfl
                show Bys W (y 66) _
                rw [e66]
                exact ((HR7.out.below hW).take a HMa.out).bys) (by rw [List.length_take]; have := HT1.out; omega) (by intro k hk; cases hk; exact .inl rfl)
              case c6 => exact Asked.late (ask_field (guard_none rfl) _ (.tmp 3) 4 (.pointer (some ⟨b0, 0, none⟩)) (.pointer (some ⟨b0, 4, none⟩)) rfl rfl (by intro k hk; cases hk; rfl) (fun W => by kernel_rfl))
              case c7 => exact Asked.late (ask_load (guard_none rfl) _ (.tmp 68) (.pointer (some ⟨b0, 4, none⟩)) (.slice ba lb cb) rfl rfl (by intro k hk; cases hk; rfl) (fun W hW => load_one (fun W => by kernel_rfl) W _ _ (hcell W hW 4 _ rfl)))
              case c8 => exact ask_append_row2 (guard_none rfl) (by kernel_rfl) (.tmp 67) (.tmp 69) wS.heap.size (t1.take a) b rfl rfl rfl (fun y W hW hk => by
                have e69 : y 69 = .slice ba lb cb := hk 69 rfl
                show Bys W (y 69) _
                rw [e69]
                exact (HBb.out.below (Nat.le_refl _) HB7.out).below (Nat.le_refl _) hW) (by rw [List.length_take]; have := HT1.out; have := HLb.out; omega) (fun W hW => hW.size) hGg (by intro k hk; cases hk; exact .inl rfl)
              case c9 => exact Asked.late (ask_copy (guard_none rfl) (.tmp 7) (.inl rfl) (by intro k hk; cases hk; rfl))
              case c10 => exact ask_append_row2 (guard_none rfl) (by kernel_rfl) (.tmp 70) (.tmp 71) wS.heap.size (t1.take a ++ b) (t1.drop (a + lb)) rfl rfl rfl (fun y W hW hk => by
                have e71 : y 71 = .slice sa sn sc := hk 71 rfl
                show Bys W (y 71) _
                rw [e71]
                exact HT7.out.below (Nat.le_refl _) hW) (by rw [List.length_append, List.length_take, List.length_drop]; have := HT1.out; have := HLb.out; omega) (fun W hW => hW.size) hGg (by intro k hk; cases hk; exact .inl rfl)
            · intro a' W hW hd' hs' hf'
              have t72 : Row W wS.heap.size (a'.tmps.getD 72 undef) (t1.take a ++ b ++ t1.drop (a + lb)) := hf' 72 rfl
              have t0 : a'.tmps.getD 0 undef = .slice va L vc := hf' 0 rfl
              have t3 : a'.tmps.getD 3 undef = .pointer (some ⟨b0, 0, none⟩) := hf' 3 rfl
              obtain ⟨us, hus, ha'⟩ := act_open 130 a' hs' hd'
              rw [← hus] at t72 t0 t3
              have el : ((List.range 130).map us).toArray = #[us 0, us 1, us 2, us 3, us 4, us 5, us 6, us 7, us 8, us 9, us 10, us 11, us 12, us 13, us 14, us 15, us 16, us 17, us 18, us 19, us 20, us 21, us 22, us 23, us 24, us 25, us 26, us 27, us 28, us 29, us 30, us 31, us 32, us 33, us 34, us 35, us 36, us 37, us 38, us 39, us 40, us 41, us 42, us 43, us 44, us 45, us 46, us 47, us 48, us 49, us 50, us 51, us 52, us 53, us 54, us 55, us 56, us 57, us 58, us 59, us 60, us 61, us 62, us 63, us 64, us 65, us 66, us 67, us 68, us 69, us 70, us 71, us 72, us 73, us 74, us 75, us 76, us 77, us 78, us 79, us 80, us 81, us 82, us 83, us 84, us 85, us 86, us 87, us 88, us 89, us 90, us 91, us 92, us 93, us 94, us 95, us 96, us 97, us 98, us 99, us 100, us 101, us 102, us 103, us 104, us 105, us 106, us 107, us 108, us 109, us 110, us 111, us 112, us 113, us 114, us 115, us 116, us 117, us 118, us 119, us 120, us 121, us 122, us 123, us 124, us 125, us 126, us 127, us 128, us 129] := rfl
              rw [el] at ha'
              subst ha'
              rw [t0, t3]
              have HBelW : Hid (Below w1.heap.size w1 W) := Lib.hid (HB7.out.trans (hW.mono HB7.out.size))
              have HZ : Hid (Row W w1.heap.size (us 72) (layT t a b)) := Lib.hid (by
                rw [HLay.out] at t72
                exact t72.lower HB7.out.size)
              clear hus t72 t0 t3 el hf' hs' hd' hW hG hGg hcell p3 p4
              have p1 : W.cell? ⟨b0, 1, none⟩ = some (.string N) := by rw [HBelW.out.cell (p := ⟨b0, 1, none⟩) HBl.out, HBx.out]; rfl
              obtain ⟨za, zc, hzf⟩ := slice_of_row HZ.out
              obtain ⟨zn, hzn⟩ : ∃ zn, zn = (layT t a b).length := ⟨_, rfl⟩
              rw [← hzn] at hzf
              rw [hzf] at HZ ⊢
              clear hzn hzf
              have HWith : Hid (Calls Try.prog 58 #[.slice va L vc, .agg #[.string N, .slice za zn zc]] W fun e w' => ∃ u, e = .returned u ∧ Made W u (putA n (.slice za zn zc, layT t a b) G) w') := Lib.hid (by
                have h := with_any (n := n) (xa := za) (xn := zn) (xc := zc) (t := layT t a b) (HF.out.below HBelW.out) HGl.out
                rw [HN.out] at h
                exact h)
              go_wp2_with fail
              refine HWith.out.mono ?_
              rintro e w' ⟨u, rfl, hm⟩
              obtain ⟨ra', rc', hr⟩ := fls_row_slice hm.row
              have HE := Lib.hid (HE1.out u w' ⟨_, HZ.out.below hm.bel, hm.row, fun k hk => Nat.le_trans HBelW.out.size (hm.new k hk), HBelW.out.trans (hm.bel.mono HBelW.out.size)⟩)
              rw [hr] at HE ⊢
              clear hm hr
              go_wp2
              go_ret
              exact ⟨_, rfl, HE.out⟩
          · have i4 : decide ((a : Int) + (lb : Int) < (m : Int)) = false := by simp; omega
            have i5 : decide (a + lb < m) = false := by simp; omega
            have HQ := Lib.hid hq
            go_wp2
            obtain ⟨wS, hwS⟩ : ∃ wS, wS = wr.alloc (.cells #[] 5) := ⟨_, rfl⟩
            obtain ⟨sg, hsg⟩ : ∃ sg, sg = wr.heap.size := ⟨_, rfl⟩
            have HB7 : Hid (Below w1.heap.size w1 wS) := Lib.hid (by rw [hwS]; exact HBel.out.trans (HBl0.out.mono HBel.out.size))
            have HR7 : Hid (Row wS w1.heap.size (.slice ra m rc) t1) := Lib.hid (by rw [hwS]; exact HR1.out.below HBl0.out)
            have HT7 : Hid (Bys wS (.slice (some ⟨sg, 0, none⟩) 0 0) (t1.drop (a + lb))) := Lib.hid (by
              rw [List.drop_of_length_le (by have := HT1.out; have := HQ.out; omega), hwS, hsg]
              exact (row_of_lit (B := 0) (Nat.zero_le _) (heap_alloc_new wr _)).bys)
            rw [← hwS, ← hsg]
            clear hwS hsg i4 i5 i1 i1n i2 p3' p4' hq hma
            have hG : ∀ W W' : World, Below wS.heap.size wS W → Below W.heap.size W W' → Below wS.heap.size wS W' := fun W W' h h' => h.trans (h'.mono h.size)
            have hGg : ∀ (W W' : World) (row : Option Nat), Below wS.heap.size wS W → W.grownBy W' row → (∀ k, row = some k → wS.heap.size ≤ k) → Below wS.heap.size wS W' := fun W W' row h hg hk => ⟨hg.os.trans h.os, hg.tape.trans h.tape, hg.output.trans h.output, Nat.le_trans h.size hg.size, fun k hk' => (hg.block k (Nat.lt_of_lt_of_le hk' h.size) (fun e => by have := hk k e.symm; omega)).trans (h.block k hk')⟩
            have hcell : ∀ (W : World), Below wS.heap.size wS W → ∀ (i : Nat) (u : Value), (opR 1 N M (a : Int) (.slice ba lb cb))[i]? = some u → W.cell? ⟨b0, i, none⟩ = some u := fun W hW i u hu => by rw [(HB7.out.trans (hW.mono HB7.out.size)).cell (p := ⟨b0, i, none⟩) HBl.out, HBx.out]; exact hu
            refine region_late_by 11 _ _ rfl [(62, .lit wS.heap.size), (63, .is (.slice ra m rc)), (64, .is (.pointer (some ⟨b0, 3, none⟩))), (65, .is (.int .i64 (a : Int))), (66, .is (.slice ra a rc)), (67, .row wS.heap.size (t1.take a)), (68, .is (.pointer (some ⟨b0, 4, none⟩))), (69, .is (.slice ba lb cb)), (70, .row wS.heap.size (t1.take a ++ b)), (71, .is (.slice (some ⟨sg, 0, none⟩) 0 0)), (72, .row wS.heap.size (t1.take a ++ b ++ t1.drop (a + lb)))] [0, 3, 72]
              (fun W => Below wS.heap.size wS W) (by kernel_rfl) (by kernel_rfl) (by kernel_rfl) (by kernel_rfl) ?_ rfl rfl rfl (by kernel_rfl) (Below.refl _ _).drew ?_ ?_
            · intro q fq hq
              by_cases h4 : q = 62
              · subst h4
                exact .inl (by kernel_rfl)
              · exact .inl (lookup_all 62 (by kernel_rfl) hq h4)
            · refine ⟨?c0, ?c1, ?c2, ?c3, ?c4, ?c5, ?c6, ?c7, ?c8, ?c9, ?c10, trivial⟩
              case c0 => exact Asked.late (ask_build_lit hG (guard_none rfl) wS.heap.size (fun W hW => hW.size) rfl (by intro k hk; cases hk; rfl))
              case c1 => exact Asked.late (ask_copy (guard_none rfl) (.tmp 6) (.inl rfl) (by intro k hk; cases hk; rfl))
              case c2 => exact Asked.late (ask_field (guard_none rfl) _ (.tmp 3) 3 (.pointer (some ⟨b0, 0, none⟩)) (.pointer (some ⟨b0, 3, none⟩)) rfl rfl (by intro k hk; cases hk; rfl) (fun W => by kernel_rfl))
              case c3 => exact Asked.late (ask_load (guard_none rfl) _ (.tmp 64) (.pointer (some ⟨b0, 3, none⟩)) (.int .i64 (a : Int)) rfl rfl (by intro k hk; cases hk; rfl) (fun W hW => load_one (fun W => by kernel_rfl) W _ _ (hcell W hW 3 _ rfl)))
              case c4 => exact Asked.late (ask_slice (guard_none rfl) _ (.tmp 63) none (some (.tmp 65)) none (.slice ra m rc) (.slice ra a rc) none (some (.int .i64 (a : Int))) none rfl rfl rfl rfl rfl (by intro k hk; cases hk; rfl) (fun W => slice_to ra m rc a (by have := HMa.out; have := HRc.out; omega) W))
              case c5 =>
                refine Asked.late ?_
                exact ask_append_lit hG (guard_none rfl) (.tmp 62) (.tmp 66) wS.heap.size (t1.take a) rfl rfl rfl (fun y W hW hk => by
                have e66 : y 66 = .slice ra a rc := hk 66 rfl
                show Bys W (y 66) _
                rw [e66]
                exact ((HR7.out.below hW).take a HMa.out).bys) (by rw [List.length_take]; have := HT1.out; omega) (by intro k hk; cases hk; exact .inl rfl)
              case c6 => exact Asked.late (ask_field (guard_none rfl) _ (.tmp 3) 4 (.pointer (some ⟨b0, 0, none⟩)) (.pointer (some ⟨b0, 4, none⟩)) rfl rfl (by intro k hk; cases hk; rfl) (fun W => by kernel_rfl))
              case c7 => exact Asked.late (ask_load (guard_none rfl) _ (.tmp 68) (.pointer (some ⟨b0, 4, none⟩)) (.slice ba lb cb) rfl rfl (by intro k hk; cases hk; rfl) (fun W hW => load_one (fun W => by kernel_rfl) W _ _ (hcell W hW 4 _ rfl)))
              case c8 => exact ask_append_row2 (guard_none rfl) (by kernel_rfl) (.tmp 67) (.tmp 69) wS.heap.size (t1.take a) b rfl rfl rfl (fun y W hW hk => by
                have e69 : y 69 = .slice ba lb cb := hk 69 rfl
                show Bys W (y 69) _
                rw [e69]
                exact (HBb.out.below (Nat.le_refl _) HB7.out).below (Nat.le_refl _) hW) (by rw [List.length_take]; have := HT1.out; have := HLb.out; omega) (fun W hW => hW.size) hGg (by intro k hk; cases hk; exact .inl rfl)
              case c9 => exact Asked.late (ask_copy (guard_none rfl) (.tmp 7) (.inl rfl) (by intro k hk; cases hk; rfl))
              case c10 => exact ask_append_row2 (guard_none rfl) (by kernel_rfl) (.tmp 70) (.tmp 71) wS.heap.size (t1.take a ++ b) (t1.drop (a + lb)) rfl rfl rfl (fun y W hW hk => by
                have e71 : y 71 = .slice (some ⟨sg, 0, none⟩) 0 0 := hk 71 rfl
                show Bys W (y 71) _
                rw [e71]
                exact HT7.out.below (Nat.le_refl _) hW) (by rw [List.length_append, List.length_take, List.length_drop]; have := HT1.out; have := HLb.out; omega) (fun W hW => hW.size) hGg (by intro k hk; cases hk; exact .inl rfl)
            · intro a' W hW hd' hs' hf'
              have t72 : Row W wS.heap.size (a'.tmps.getD 72 undef) (t1.take a ++ b ++ t1.drop (a + lb)) := hf' 72 rfl
              have t0 : a'.tmps.getD 0 undef = .slice va L vc := hf' 0 rfl
              have t3 : a'.tmps.getD 3 undef = .pointer (some ⟨b0, 0, none⟩) := hf' 3 rfl
              obtain ⟨us, hus, ha'⟩ := act_open 130 a' hs' hd'
              rw [← hus] at t72 t0 t3
              have el : ((List.range 130).map us).toArray = #[us 0, us 1, us 2, us 3, us 4, us 5, us 6, us 7, us 8, us 9, us 10, us 11, us 12, us 13, us 14, us 15, us 16, us 17, us 18, us 19, us 20, us 21, us 22, us 23, us 24, us 25, us 26, us 27, us 28, us 29, us 30, us 31, us 32, us 33, us 34, us 35, us 36, us 37, us 38, us 39, us 40, us 41, us 42, us 43, us 44, us 45, us 46, us 47, us 48, us 49, us 50, us 51, us 52, us 53, us 54, us 55, us 56, us 57, us 58, us 59, us 60, us 61, us 62, us 63, us 64, us 65, us 66, us 67, us 68, us 69, us 70, us 71, us 72, us 73, us 74, us 75, us 76, us 77, us 78, us 79, us 80, us 81, us 82, us 83, us 84, us 85, us 86, us 87, us 88, us 89, us 90, us 91, us 92, us 93, us 94, us 95, us 96, us 97, us 98, us 99, us 100, us 101, us 102, us 103, us 104, us 105, us 106, us 107, us 108, us 109, us 110, us 111, us 112, us 113, us 114, us 115, us 116, us 117, us 118, us 119, us 120, us 121, us 122, us 123, us 124, us 125, us 126, us 127, us 128, us 129] := rfl
              rw [el] at ha'
              subst ha'
              rw [t0, t3]
              have HBelW : Hid (Below w1.heap.size w1 W) := Lib.hid (HB7.out.trans (hW.mono HB7.out.size))
              have HZ : Hid (Row W w1.heap.size (us 72) (layT t a b)) := Lib.hid (by
                rw [HLay.out] at t72
                exact t72.lower HB7.out.size)
              clear hus t72 t0 t3 el hf' hs' hd' hW hG hGg hcell p3 p4
              have p1 : W.cell? ⟨b0, 1, none⟩ = some (.string N) := by rw [HBelW.out.cell (p := ⟨b0, 1, none⟩) HBl.out, HBx.out]; rfl
              obtain ⟨za, zc, hzf⟩ := slice_of_row HZ.out
              obtain ⟨zn, hzn⟩ : ∃ zn, zn = (layT t a b).length := ⟨_, rfl⟩
              rw [← hzn] at hzf
              rw [hzf] at HZ ⊢
              clear hzn hzf
              have HWith : Hid (Calls Try.prog 58 #[.slice va L vc, .agg #[.string N, .slice za zn zc]] W fun e w' => ∃ u, e = .returned u ∧ Made W u (putA n (.slice za zn zc, layT t a b) G) w') := Lib.hid (by
                have h := with_any (n := n) (xa := za) (xn := zn) (xc := zc) (t := layT t a b) (HF.out.below HBelW.out) HGl.out
                rw [HN.out] at h
                exact h)
              go_wp2_with fail
              refine HWith.out.mono ?_
              rintro e w' ⟨u, rfl, hm⟩
              obtain ⟨ra', rc', hr⟩ := fls_row_slice hm.row
              have HE := Lib.hid (HE1.out u w' ⟨_, HZ.out.below hm.bel, hm.row, fun k hk => Nat.le_trans HBelW.out.size (hm.new k hk), HBelW.out.trans (hm.bel.mono HBelW.out.size)⟩)
              rw [hr] at HE ⊢
              clear hm hr
              go_wp2
              go_ret
              exact ⟨_, rfl, HE.out⟩
end Go.Proofs.Ytabddeoeihlnnaa
